/-
  Package young: has, with, without, Check, Write, Keep.
-/
import Derived.Test.YthdnfocemchgjaaYoungC
import Derived.Test.YthdnfocemchgjaaYoungF
import Derived.Test.YthdnfocemchgjaaPlanD
import Derived.Test.YthdnfocemchgjaaYoungR
import Derived.Deep.DeepCutAuto
namespace Go.Proofs.Ythdnfocemchgjaa
open Go.RowKit

set_option maxHeartbeats 400000 in
theorem youngHas_any (A : Option Addr) (n c B : Nat) (xs : List Int) (x : Int) (w : World) (hn : n ≤ maxLen) (ha : Arr .i64 w B A n xs) (hR : xs.Pairwise (· < ·)) :
    Calls Try.prog 31 #[.slice A n c, .int .i64 x] w fun e w' => e = .returned (.bool (decide (x ∈ xs))) ∧ w = w' := by
  have HB : Hid (Calls Try.prog 66 #[.slice A n c, .int .i64 x] w fun e w' => ∃ p : Int, e = .returned (.tuple #[.int .i64 p, .bool (decide (x ∈ xs))]) ∧ w = w') := (binI_any A n c B xs x w hn ha hR).mono fun _ _ ⟨p, h1, h2, _⟩ => ⟨p, h1, h2⟩
  clear ha hR
  generalize decide (x ∈ xs) = V at *
  go_enter Try.func31, Try.ntmps31
  go_wp2_with fail
  refine HB.out.mono ?_
  rintro e w1 ⟨p, rfl, rfl⟩
  go_wp2
  go_ret
  exact ⟨rfl, rfl⟩

/-- What without answers. -/
def OutP (xs os : List Int) (w : World) (e : Ending) (w' : World) : Prop := ∃ A' c', e = .returned (.slice A' (outL xs os).length c') ∧ Below w.heap.size w w' ∧ (outL xs os).length ≤ c' ∧ Arr .i64 w' w'.heap.size A' (outL xs os).length (outL xs os)
set_option maxHeartbeats 1000000 in
theorem youngWithout_any (A O : Option Addr) (n c m d : Nat) (xs os : List Int) (w : World) (hn : n * 8 ≤ 140737488351232) (hm : m ≤ maxLen) (ha : Arr .i64 w w.heap.size A n xs) (ho : Arr .i64 w w.heap.size O m os) (hR : os.Pairwise (· < ·)) :
    Calls Try.prog 39 #[.slice A n c, .slice O m d] w (OutP xs os w) := by
  have HA := Lib.hid ha
  have HC := Lib.hid (fun x wx (hb : Below w.heap.size w wx) => youngHas_any O m d w.heap.size os x wx hm (ho.below hb (Nat.le_refl _)) hR)
  clear ha ho hR hm
  unfold OutP
  go_enter Try.func39, Try.ntmps39
  go_wp2_with fail
  go_loopw [5, 10] (fun v i wr => ∃ k : Nat, k ≤ n ∧ i = .int .i64 k ∧ Hid (Own .i64 3 wr w.heap.size v (outL (xs.take k) os)) ∧ Hid (Below w.heap.size w wr)) (fun _ i _ => n - (intOf i).toNat)
  case atStart => exact ⟨0, Nat.zero_le _, rfl, Own.nil, Below.refl _ _⟩
  case round =>
    obtain ⟨k, hk, rfl, HO, HB⟩ := hrel
    by_cases hlt : k < n
    · obtain ⟨b, off, rfl, hbl, hcs⟩ := HA.out.2.2 (by omega)
      have hc := (HB.out.cell (p := ⟨b, off + k, none⟩) hbl).trans (hcs k hlt)
      have HQ := Lib.hid (HC.out (nth xs k) wr HB.out)
      have hkl : k < xs.length := by have := HA.out.1; omega
      have hwx := HA.out.2.1 _ (nth_mem hkl)
      clear hcs
      by_cases hin : nth xs k ∈ os
      · rw [show decide (nth xs k ∈ os) = true by simpa using hin] at HQ
        rw [← outL_skip hkl hin] at HO
        clear hin hkl
        generalize nth xs k = X at *
        go_wp2_with fail
        refine HQ.out.mono ?_
        rintro e w1 ⟨rfl, rfl⟩
        go_wp2
        go_roundw
        case rel => exact ⟨k + 1, by omega, by go_num, HO, HB⟩
        case measure => simp [intOf]; omega
      · rw [show decide (nth xs k ∈ os) = false by simpa using hin] at HQ
        have hll : (outL (xs.take k) os).length ≤ k := Nat.le_trans outL_len (List.length_take_le _ _)
        obtain ⟨v', w6, hrun, hO', hG⟩ := HO.out.pushGB (P := Try.prog) (t := 23) (ty := 23) Try.underlying23 intI_info (x := nth xs k) hwx (by omega) HB.out.size
        rw [← outL_more hkl hin] at hO'
        have HR := Lib.hid hrun
        have HO' := Lib.hid hO'
        have HB' := Lib.hid (HB.out.trans (hG.below HB.out.size HO.out.row))
        clear hin hkl hrun hO' hG hll HO
        generalize nth xs k = X at *
        go_wp2_with fail
        refine HQ.out.mono ?_
        rintro e w1 ⟨rfl, rfl⟩
        go_wp2_with (at_builtin; refine wpList_append_run rfl (.tmp 18) (.tmp 20) 23 rfl rfl rfl HR.out ?_)
        go_roundw
        case rel => exact ⟨k + 1, by omega, by go_num, HO', HB'⟩
        case measure => simp [intOf]; omega
    · obtain rfl : n = k := by omega
      have hl := HA.out.1
      rw [List.take_of_length_le (by omega)] at HO
      obtain ⟨A', c', hv, hc', hA'⟩ := HO.out.arr
      subst hv
      have HA' := Lib.hid hA'
      have HC' := Lib.hid hc'
      clear hA' hc' HO hl
      obtain ⟨q, hq⟩ : ∃ q, (outL xs os).length = q := ⟨_, rfl⟩
      rw [hq] at HA' HC' ⊢
      have HQ := Lib.hid hq
      clear hq
      go_wp2
      go_ret
      exact ⟨A', c', by rw [HQ.out]; rfl, HB.out, by rw [HQ.out]; exact HC'.out, by rw [HQ.out]; exact HA'.out⟩

/-- What with answers. -/
def WithP (xs ys : List Int) (w : World) (e : Ending) (w' : World) : Prop := ∃ A' n' c', e = .returned (.slice A' n' c') ∧ n' = (sortL (xs ++ ys)).length ∧ OwnF .i64 3 w' w.heap.size (.slice A' n' c') (sortL (xs ++ ys)) ∧ Below w.heap.size w w'
set_option maxHeartbeats 1000000 in
theorem youngWith_any (A M : Option Addr) (n c m d : Nat) (xs ys : List Int) (w : World) (hT : n + m ≤ 1048576) (ha : Arr .i64 w w.heap.size A n xs) (hm : Arr .i64 w w.heap.size M m ys) :
    Calls Try.prog 32 #[.slice A n c, .slice M m d] w (WithP xs ys w) := by
  have hl : (xs ++ ys).length ≤ 1048576 := by rw [List.length_append, ha.1, hm.1]; exact hT
  have ba := (Below.refl _ w).alloc (Nat.le_refl _) (.cells #[.slice A n c, .slice M m d] 23)
  have bx := Box.new w 23 #[.slice A n c, .slice M m d]
  have HCC := Lib.hid (concat2F A M n c m d w.heap.size xs ys _ (by omega) bx.lt (ha.later ba) (hm.later ba) (bx.cell 0) (bx.cell 1))
  have HBA := Lib.hid ba
  clear ba bx ha hm
  unfold WithP
  go_enter Try.func32, Try.ntmps32
  go_wp2_with fail
  refine HCC.out.mono ?_
  rintro e w1 ⟨v, rfl, hO, hb⟩
  have HS := Lib.hid (sortI_ownF v (xs ++ ys) w.heap.size w1 (hO.lessF HBA.out.size) (by omega) (Nat.le_trans HBA.out.size hb.size))
  have HB1 := Lib.hid (bthen HBA.out hb)
  clear hO hb HCC HBA
  go_wp2_with fail
  refine HS.out.mono ?_
  rintro e w2 ⟨rfl, hO, hb⟩
  have HB2 := Lib.hid (HB1.out.trans hb)
  obtain ⟨A', c', hv, _⟩ := hO.arr
  subst hv
  have HO := Lib.hid hO
  clear hO hb HS HB1
  obtain ⟨q, hq⟩ : ∃ q, (sortL (xs ++ ys)).length = q := ⟨_, rfl⟩
  rw [hq] at HO ⊢
  have HQ := Lib.hid hq
  clear hq
  go_wp2
  go_ret
  exact ⟨A', q, c', rfl, HQ.out.symm, HO.out, HB2.out⟩

set_option maxRecDepth 8000 in
set_option maxHeartbeats 2000000 in
theorem yCheck_any : YCheckC := by
  intro A G K n c ng cg nb cb zs g b w h
  have b1 := (Below.refl _ w).alloc (Nat.le_refl _) (.cells #[.slice A n c, .slice G ng cg, .slice K nb cb] 25)
  have HI := Lib.hid (show AgI w A G K n c ng cg nb cb zs g b (w.alloc (.cells #[.slice A n c, .slice G ng cg, .slice K nb cb] 25)) from ⟨b1, Box.new w 25 #[.slice A n c, .slice G ng cg, .slice K nb cb], h.tri.next b1⟩)
  have HZ := Lib.hid h.tri.arena.2.1
  have HC := Lib.hid (fun wx (t : TriIn wx A G K n c ng nb zs g b) => Check_any A n c zs wx t.hn t.hnc t.arena)
  have HIG := Lib.hid (fun wx (t : TriIn wx A G K n c ng nb zs g b) => increasing_any G ng cg wx.heap.size g wx t.hg t.grey)
  have HIK := Lib.hid (fun wx (t : TriIn wx A G K n c ng nb zs g b) => increasing_any K nb cb wx.heap.size b wx t.hb t.blk)
  have HWO := Lib.hid (fun wx (t : TriIn wx A G K n c ng nb zs g b) (hr : g.Pairwise (· < ·)) => youngWithout_any K G nb cb ng cg b g wx h.sz.2.2 t.hg t.blk t.grey hr)
  have HWN := Lib.hid (fun wx (t : TriIn wx A G K n c ng nb zs g b) (hr : b.Pairwise (· < ·)) => youngWithout_any G K ng cg nb cb g b wx h.sz.2.1 t.hb t.grey t.blk hr)
  have HST := Lib.hid (fun wx (t : TriIn wx A G K n c ng nb zs g b) (D : Option Addr) (m d : Nat) (hm : m ≤ maxLen) (hD : Arr .i64 wx wx.heap.size D m (outL g b)) => stepCheck_any A K D n c nb cb m d zs b (outL g b) wx ⟨t.arena, t.blk, hD, t.hn, t.hnc, t.hb, hm⟩)
  have HNG : Hid ((outL g b).length ≤ maxLen) := Nat.le_trans outL_len (by rw [h.tri.grey.1]; exact h.tri.hg)
  clear b1 h
  unfold OutP at HWO HWN
  go_enter Try.func9, Try.ntmps9
  go_wp2_with fail
  generalize (w.alloc (.cells #[.slice A n c, .slice G ng cg, .slice K nb cb] 25)) = w1 at *
  obtain ⟨a0, a1, a2⟩ := HI.out.cells
  go_wp2_with fail
  refine (HC.out _ HI.out.tri).mono ?_
  rintro e w2 ⟨rfl, b2⟩
  have HI2 := Lib.hid (HI.out.next b2)
  clear b2 a0 a1 a2 HI HC
  by_cases he : arErr zs = 0
  · have HE := Lib.hid he
    rw [he]
    clear he
    obtain ⟨a0, a1, a2⟩ := HI2.out.cells
    have HQ := Lib.hid (HIG.out w2 HI2.out.tri)
    clear HIG
    cases hg : riseB g
    · have HA : Hid (agesE zs g b = 3) := agesE_form HE.out (by rw [hg]; rfl)
      rw [hg] at HQ
      clear hg
      go_wp2_with fail
      refine HQ.out.mono ?_
      rintro e w3 ⟨rfl, q, rfl⟩
      go_wp2
      go_ret
      exact ⟨by rw [HA.out]; rfl, below_drewN HI2.out.below q⟩
    · have HRG : Hid (riseB g = true) := hg
      rw [hg] at HQ
      clear hg
      go_wp2_with fail
      refine HQ.out.mono ?_
      rintro e w3 ⟨rfl, q, hq⟩
      have HI3 := Lib.hid (HI2.out.next (show Below w2.heap.size w2 w3 by rw [← hq]; exact below_drewN (Below.refl _ _) q))
      clear hq a0 a1 a2 HI2 HQ
      obtain ⟨a0, a1, a2⟩ := HI3.out.cells
      have HQ := Lib.hid (HIK.out w3 HI3.out.tri)
      clear HIK
      cases hb : riseB b
      · have HA : Hid (agesE zs g b = 3) := agesE_form HE.out (by rw [HRG.out, hb]; rfl)
        rw [hb] at HQ
        clear hb
        go_wp2_with fail
        refine HQ.out.mono ?_
        rintro e w4 ⟨rfl, q, rfl⟩
        go_wp2
        go_ret
        exact ⟨by rw [HA.out]; rfl, below_drewN HI3.out.below q⟩
      · have HRB : Hid ((riseB g && riseB b) = true) := by show _ = _; rw [HRG.out, hb]; rfl
        have HPB : Hid (b.Pairwise (· < ·)) := riseB_iff.1 hb
        have HPG : Hid (g.Pairwise (· < ·)) := riseB_iff.1 HRG.out
        rw [hb] at HQ
        clear hb
        go_wp2_with fail
        refine HQ.out.mono ?_
        rintro e w4 ⟨rfl, q, hq⟩
        have HI4 := Lib.hid (HI3.out.next (show Below w3.heap.size w3 w4 by rw [← hq]; exact below_drewN (Below.refl _ _) q))
        clear hq a0 a1 a2 HI3 HQ
        obtain ⟨a0, a1, a2⟩ := HI4.out.cells
        have HQ := Lib.hid (HWO.out w4 HI4.out.tri HPG.out)
        clear HWO
        go_wp2_with fail
        refine HQ.out.mono ?_
        rintro e w5 ⟨D, d, rfl, b5, hd, hD⟩
        have HI5 := Lib.hid (HI4.out.next b5)
        clear b5 hd hD a0 a1 a2 HI4 HQ
        cases hs : subB g b
        · have hl : (outL b g).length ≠ 0 := fun h0 => by rw [outL_nil.1 h0] at hs; cases hs
          have HA : Hid (agesE zs g b = 5) := ages_sub HE.out HRB.out hs
          obtain ⟨q, hq⟩ : ∃ q, (outL b g).length = q := ⟨_, rfl⟩
          rw [hq] at hl ⊢
          have hl2 : (0 : Int) < (q : Int) := by omega
          clear hs hq hl
          go_wp2
          go_ret
          exact ⟨by rw [HA.out]; rfl, HI5.out.below⟩
        · have HA : Hid (triE zs b (outL g b) = agesE zs g b) := ages_tri HZ.out HE.out HRB.out hs
          rw [outL_nil.2 hs]
          clear hs
          obtain ⟨a0, a1, a2⟩ := HI5.out.cells
          have HQ := Lib.hid (fun wx (hb : Below w5.heap.size w5 wx) => HWN.out wx (HI5.out.tri.next hb) HPB.out)
          have HS5 := Lib.hid (HI5.out.arg.lt)
          obtain ⟨m, hm⟩ : ∃ m, (outL g b).length = m := ⟨_, rfl⟩
          rw [hm] at HQ HNG
          have HSC := Lib.hid (fun wx (hb : Below w5.heap.size w5 wx) D d hD => HST.out wx (HI5.out.tri.next hb) D m d HNG.out hD)
          rw [HA.out] at HSC
          clear HWN HST hm
          go_wp2_with fail
          go_region_held3 (fun w' => w'.cell? ⟨w.heap.size, 0, none⟩ = some (.slice A n c) ∧ w'.cell? ⟨w.heap.size, 1, none⟩ = some (.slice G ng cg) ∧ w'.cell? ⟨w.heap.size, 2, none⟩ = some (.slice K nb cb))
            (first
              | go_keep
              | exact ⟨(b8.cell (p := ⟨w.heap.size, 0, none⟩) (Nat.lt_of_lt_of_le HS5.out b7.size)).trans y0, (b8.cell (p := ⟨w.heap.size, 1, none⟩) (Nat.lt_of_lt_of_le HS5.out b7.size)).trans y1, (b8.cell (p := ⟨w.heap.size, 2, none⟩) (Nat.lt_of_lt_of_le HS5.out b7.size)).trans y2⟩
              | exact ⟨y0, y1, y2⟩)
            (first
              | (go_at_call 40; refine (HSC.out w7 b7 D7 c7 hA7).mono ?_; rintro e w8 ⟨rfl, b8⟩)
              | (go_at_call 39; refine (HQ.out _ (below_drewN (Below.refl _ _) 1)).mono ?_; rintro e w7 ⟨D7, c7, rfl, b7, _, hA7⟩; have b7 : Below w5.heap.size w5 w7 := below_of_drew b7; have y0 := (b7.cell (p := ⟨w.heap.size, 0, none⟩) HS5.out).trans a0; have y1 := (b7.cell (p := ⟨w.heap.size, 1, none⟩) HS5.out).trans a1; have y2 := (b7.cell (p := ⟨w.heap.size, 2, none⟩) HS5.out).trans a2))
          go_wp2
          go_ret
          exact ⟨rfl, HI5.out.below.trans ((bthen b7 b8).mono HI5.out.below.size)⟩
  · have HA : Hid (agesE zs g b = arErr zs) := agesE_arena he
    rw [← HA.out] at he ⊢
    clear HA
    go_wp2
    go_ret
    exact ⟨rfl, HI2.out.below⟩
end Go.Proofs.Ythdnfocemchgjaa
