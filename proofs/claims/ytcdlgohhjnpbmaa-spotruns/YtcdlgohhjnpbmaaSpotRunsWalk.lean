/-
  The walk of SpotRuns: whatever the arguments and the memory, the call returns true and changes nothing that was there.
-/
import Derived.Test.YtcdlgohhjnpbmaaRunFn
import Derived.Test.YtcdlgohhjnpbmaaSpotRun
import Derived.Test.YtcdlgohhjnpbmaaSpotWalk
import Derived.IntWalk
namespace Go.Proofs.Ytcdlgohhjnpbmaa
open Go.RowKit

/-- Is 'k' in the run? -/
def inB (a l k : Int) : Bool := decide (a ≤ k ∧ k - a < l)
set_option maxHeartbeats 400000 in
theorem in_any (a l k : Int) (w : World) (ha : 0 ≤ a) (ha2 : a ≤ 9223372036854775807) (hl : (Lit.int .i64 l).wf = true) (hk : (Lit.int .i64 k).wf = true) :
    Calls Try.prog 32 #[.agg #[.int .i64 a, .int .i64 l], .int .i64 k] w fun e w' => e = .returned (.bool (inB a l k)) ∧ Below w.heap.size w w' := by
  rw [wf_i64] at hl hk
  obtain ⟨hl1, hl2⟩ := hl
  obtain ⟨hk1, hk2⟩ := hk
  by_cases h1 : a ≤ k
  · have HR : Hid (inB a l k = decide (k - a < l)) := by show _ = _; unfold inB; rw [Bool.eq_iff_iff]; simp [h1]
    go_enter Try.func32, Try.ntmps32
    go_wp2
    go_ret
    exact ⟨by rw [HR.out]; rfl, (Below.refl _ _).alloc (Nat.le_refl _) _⟩
  · have HR : Hid (inB a l k = false) := by show _ = _; unfold inB; simp; omega
    have d : decide (a ≤ k) = false := by simpa using h1
    go_enter Try.func32, Try.ntmps32
    go_wp2
    go_ret
    exact ⟨by rw [HR.out]; rfl, (Below.refl _ _).alloc (Nat.le_refl _) _⟩

set_option maxHeartbeats 400000 in
theorem inK_any (a l k : Int) (b off : Nat) (w : World) (ha : 0 ≤ a) (ha2 : a ≤ 9223372036854775807) (hl : (Lit.int .i64 l).wf = true) (hk : (Lit.int .i64 k).wf = true) (hb : b < w.heap.size) (hc : w.cell? ⟨b, off, none⟩ = some (.int .i64 k)) :
    Calls Try.prog 31 #[.agg #[.int .i64 a, .int .i64 l], .pointer (some ⟨b, off, none⟩)] w fun e w' => e = .returned (.bool (inB a l k)) ∧ Below w.heap.size w w' := by
  have hc' : (w.alloc (.cells #[.int .i64 a, .int .i64 l] 38)).cell? ⟨b, off, none⟩ = some (.int .i64 k) := (((Below.refl _ _).alloc (Nat.le_refl _) _).cell (p := ⟨b, off, none⟩) hb).trans hc
  have hne : ¬ b = w.heap.size := by omega
  go_enter Try.func31, Try.ntmps31
  go_wp2_with fail
  refine (in_any a l k _ ha ha2 hl hk).mono ?_
  rintro e w1 ⟨rfl, hb1⟩
  have HB : Hid (Below w.heap.size w w1) := ((Below.refl _ _).alloc (Nat.le_refl _) _).trans (hb1.mono (by simp))
  clear hb1 hc hc'
  go_wp2
  go_ret
  exact ⟨rfl, HB.out⟩

theorem sum_nonneg {l : List Int} (h : ∀ x ∈ l, 0 ≤ x) : 0 ≤ l.sum := by
  induction l with
  | nil => simp
  | cons a l ih =>
    rw [List.sum_cons]
    have := ih fun x hx => h x (by simp [hx])
    have := h a (by simp)
    omega
theorem sum_take {L : List (Int × Int)} (h : ∀ i, i < L.length → 1 ≤ (nthG L i).2) (j : Nat) : 0 ≤ ((L.take j).map (·.2)).sum ∧ ((L.take j).map (·.2)).sum ≤ (L.map (·.2)).sum := by
  have hall : ∀ x ∈ L.map (·.2), 0 ≤ x := by
    intro x hx
    obtain ⟨a, ha, rfl⟩ := List.mem_map.1 hx
    obtain ⟨i, hi, rfl⟩ := List.getElem_of_mem ha
    have := h i hi
    rw [nthG_get _ _ hi] at this
    omega
  have h1 := sum_nonneg (l := (L.take j).map (·.2)) fun x hx => hall x (by
    rw [List.map_take] at hx; exact List.mem_of_mem_take hx)
  have h2 := sum_nonneg (l := (L.drop j).map (·.2)) fun x hx => hall x (by
    rw [List.map_drop] at hx; exact List.mem_of_mem_drop hx)
  have h3 : (L.map (·.2)).sum = ((L.take j).map (·.2)).sum + ((L.drop j).map (·.2)).sum := by
    rw [← List.sum_append, ← List.map_append, List.take_append_drop]
  omega
theorem sum_step {L : List (Int × Int)} {j : Nat} (h : j < L.length) : ((L.take (j + 1)).map (·.2)).sum = ((L.take j).map (·.2)).sum + (nthG L j).2 := by
  rw [List.take_succ_eq_append_getElem h, List.map_append, List.sum_append, nthG_get _ _ h]
  simp

set_option maxHeartbeats 2000000 in
theorem spotRuns_walk (A : Option Addr) (n c : Nat) (m k : Int) (zs : List Int) (w : World) (hn : n ≤ maxLen) (hm : (Lit.int .i64 m).wf = true) (hk : (Lit.int .i64 k).wf = true) (ha : Arr .u64 w w.heap.size A n zs) :
    Calls Try.prog 4 #[.slice A n c, .int .i64 m, .int .i64 k] w fun e w' => e = .returned (.bool true) ∧ Below w.heap.size w w' := by
  have b0 : Below w.heap.size w (w.alloc (.cells #[.int .i64 k] 3)) := (Below.refl _ _).alloc (Nat.le_refl _) _
  have hc0 : (w.alloc (.cells #[.int .i64 k] 3)).cell? ⟨w.heap.size, 0, none⟩ = some (.int .i64 k) := by rw [cell_of_row _ _ 0 _ 3 (0, 0) (heap_alloc_new w _)]; rfl
  by_cases hE : marksE zs m = 0
  · obtain ⟨g1, g2, g3, g4, g5⟩ := marks_len hE ha.1
    obtain ⟨q, rfl⟩ := Int.eq_ofNat_of_zero_le g3
    have hR := runs_ok (bit zs) q
    have hlq := runsTo_len (f := bit zs) q
    go_enter Try.func4, Try.ntmps4
    go_wp2_with fail
    refine (marks_any _).mono ?_
    rintro e w1 ⟨rfl, hb1⟩
    have hc1 : w1.cell? ⟨w.heap.size, 0, none⟩ = some (.int .i64 k) := (hb1.cell (p := ⟨w.heap.size, 0, none⟩) (by simp)).trans hc0
    have hB1 := b0.trans (hb1.mono b0.size)
    have hsz1 : w.heap.size < w1.heap.size := by have := hb1.size; simp at this; omega
    go_wp2_with fail
    refine (Runs_any A n c q zs _ hn hm ((ha.below hB1 (Nat.le_refl _)).more hB1.size)).mono ?_
    rintro e w2 ⟨A2, k2, c2, rfl, hb2, hkc, h2⟩
    obtain ⟨_, rfl, hA2⟩ := h2.resolve_left (fun h => h.1 hE)
    rw [hE]
    rw [Int.toNat_natCast] at hA2 hkc ⊢
    have hc2 : w2.cell? ⟨w.heap.size, 0, none⟩ = some (.int .i64 k) := (hb2.cell (p := ⟨w.heap.size, 0, none⟩) hsz1).trans hc1
    have hB2 := hB1.trans (hb2.mono hB1.size)
    have ha2 := ha.below hB2 (Nat.le_refl _)
    have hsz2 : w.heap.size < w2.heap.size := by have := hb2.size; omega
    generalize hL : runsTo (bit zs) q = L at *
    clear hL h2 hc0 hc1 hb1 hb2 hB1 b0
    have HB2 := Lib.hid hB2
    have HA2 := Lib.hid hA2
    have Ha2 := Lib.hid ha2
    have Hc2 := Lib.hid hc2
    clear hB2 hA2 ha2 hc2 ha
    go_wp2_with fail
    go_loopw [9, 31] (fun s i wr => ∃ j : Nat, j ≤ L.length ∧ i = .int .i64 j ∧ s = .int .i64 ((L.take j).map (·.2)).sum ∧ Below w2.heap.size w2 wr) (fun _ i _ => L.length - (intOf i).toNat)
    case atStart => exact ⟨0, Nat.zero_le _, rfl, rfl, Below.refl _ _⟩
    case round =>
      obtain ⟨j, hj, rfl, rfl, hBr⟩ := hrel
      by_cases hlt : j < L.length
      · obtain ⟨p1, p2, p3⟩ := hR.pos j hlt
        obtain ⟨b, off, rfl, hbB, hcA, hcB⟩ := (HA2.out.below hBr (Nat.le_refl _)).run hlt
        obtain ⟨s1, s2⟩ := sum_take (fun i hi => (hR.pos i hi).1) j
        obtain ⟨s3, s4⟩ := sum_take (fun i hi => (hR.pos i hi).1) (j + 1)
        rw [hR.sum] at s2 s4
        have s5 := cnt_le (bit zs) 0 q
        have hstep := sum_step hlt
        have hdr := HA2.out.below hBr (Nat.le_refl _)
        have hpv : ∀ i, j = i + 1 → (nthG L i).1 + (nthG L i).2 < (nthG L j).1 := fun i e => by subst e; exact hR.apart i hlt
        have hpp : ∀ i, j = i + 1 → 1 ≤ (nthG L i).2 ∧ 0 ≤ (nthG L i).1 := fun i e => by have := hR.pos i (by omega); exact ⟨this.1, this.2.1⟩
        have Hpv := Lib.hid hpv
        have Hpp := Lib.hid hpp
        have HAr := Lib.hid hdr
        have HBr := Lib.hid hBr
        have HR := Lib.hid hR
        clear hR hBr hpv hdr hpp
        generalize hX : (nthG L j).1 = X at *
        generalize hY : (nthG L j).2 = Y at *
        have HX := Lib.hid hX
        have HY := Lib.hid hY
        clear hX hY
        rw [hstep] at s3 s4
        generalize hSS : ((L.take j).map (·.2)).sum = S at *
        clear hSS
        have HS := Lib.hid hstep
        generalize cnt (bit zs) 0 q = Cn at *
        clear hstep
        have hbr : ¬ b = wr.heap.size := by
          have := HBr.out.size; omega
        have hbr' : b < wr.heap.size := by
          have := HBr.out.size; omega
        have d1 : decide (Y < 1) = false := by simp; omega
        have d2 : decide (X < 0) = false := by simp; omega
        have d3 : decide ((q : Int) < X + Y) = false := by simp; omega
        have x1 : IntKind.i64.wrap (X + Y) = X + Y := IntWalk.i64_in _ (by omega)
        by_cases h0 : 0 < j
        · obtain ⟨i, rfl⟩ : ∃ i, j = i + 1 := ⟨j - 1, by omega⟩
          have pv := Hpv.out i rfl
          obtain ⟨pp1, pp2⟩ := Hpp.out i rfl
          obtain ⟨b', off', hbe, _, hcC, hcD⟩ := HAr.out.run (j := i) (by omega)
          injection hbe with hbe
          injection hbe with e1 e2
          subst e1
          subst e2
          generalize (nthG L i).1 = U at *
          generalize (nthG L i).2 = V at *
          have hb0 : Below wr.heap.size wr (wr.alloc (.cells #[.int .i64 X, .int .i64 Y] 38)) := (Below.refl _ _).alloc (Nat.le_refl _) _
          have hcE := (hb0.cell (p := ⟨b, off + i * 2, none⟩) hbr').trans hcC
          have hcF := (hb0.cell (p := ⟨b, off + i * 2 + 1, none⟩) hbr').trans hcD
          have HB0 := Lib.hid (HBr.out.trans (hb0.mono HBr.out.size))
          have d4 : decide (X ≤ U + V) = false := by simp; omega
          have x2 : IntKind.i64.wrap (U + V) = U + V := IntWalk.i64_in _ (by omega)
          clear hb0
          go_wp2
          go_quiet (fail)
          go_wp2
          go_roundw
          case rel => exact ⟨i + 1 + 1, by omega, by go_num, by rw [HS.out], below_drewN HB0.out _⟩
          case measure => simp [intOf]; omega
        · have d0 : decide (0 < j) = false := by simpa using h0
          have hb0 : Below wr.heap.size wr (wr.alloc (.cells #[.int .i64 X, .int .i64 Y] 38)) := (Below.refl _ _).alloc (Nat.le_refl _) _
          have HB0 := Lib.hid (HBr.out.trans (hb0.mono HBr.out.size))
          clear hb0
          go_wp2
          go_quiet (fail)
          go_wp2
          go_roundw
          case rel => exact ⟨j + 1, by omega, by go_num, by rw [HS.out], below_drewN HB0.out _⟩
          case measure => simp [intOf]; omega
      · obtain rfl : j = L.length := by omega
        rw [List.take_length, hR.sum]
        have hc3 := (hBr.cell (p := ⟨w.heap.size, 0, none⟩) hsz2).trans Hc2.out
        have ha3 := Ha2.out.below hBr (by omega)
        have hA3 := (HA2.out.below hBr (Nat.le_refl _)).more hBr.size
        have HB3 := Lib.hid (HB2.out.trans (hBr.mono HB2.out.size))
        have hsz3 : w.heap.size < wr.heap.size := by have := hBr.size; omega
        have hCnt := Count_any A n c _ q 0 q zs wr hn hm (by decide) hm ha3
        have hval : spotE zs q 0 q = 0 := spotE_ok hE (validB_iff.2 (by omega))
        rw [hval, show countV zs q 0 q = (cnt (bit zs) 0 q : Nat) by rw [countV, if_pos hval]; rfl] at hCnt
        have HCnt := Lib.hid hCnt
        have HAll := Lib.hid hR.all
        have HPos := Lib.hid hR.pos
        clear hCnt hBr hR
        generalize hS : cnt (bit zs) 0 q = S at *
        have hcs : ((S : Int) == (S : Int)) = true := by simp
        go_wp2_with fail
        refine (Has_any A n c _ q k zs _ hn hm hk ha3).mono ?_
        rintro e w' ⟨rfl, rfl⟩
        go_wp2_with fail
        refine HCnt.out.mono ?_
        rintro e w' ⟨rfl, rfl⟩
        by_cases hK : spotE zs q k 1 = 0
        · obtain ⟨_, k0, k1, _, k3⟩ := spotE_zero hK
          obtain ⟨p, rfl⟩ := Int.eq_ofNat_of_zero_le k0
          rw [show hasV zs q p = bit zs p by rw [hasV, if_pos hK]; rfl, hK]
          have HC := Lib.hid (containsRun A2 L.length c2 _ 31 ⟨w.heap.size, 0, none⟩ L (fun j => inB (nthG L j).1 (nthG L j).2 p) wr (by unfold maxLen; omega) (Nat.le_refl _) hA3 Try.call31
            (fun wx hx j hj => inK_any (nthG L j).1 (nthG L j).2 p w.heap.size 0 wx (HPos.out j hj).2.1 (by have := HPos.out j hj; omega) (wf_i64.2 (by have := HPos.out j hj; omega)) hk (by have := hx.size; omega) ((hx.cell (p := ⟨w.heap.size, 0, none⟩) hsz3).trans hc3)))
          have hres : (List.range L.length).any (fun j => inB (nthG L j).1 (nthG L j).2 p) = bit zs p := by
            have := HAll.out p (by omega)
            rw [Bool.eq_iff_iff, List.any_eq_true, this]
            constructor
            · rintro ⟨i, hi, h⟩
              unfold inB at h
              simp at h
              exact ⟨i, List.mem_range.1 hi, h.1, by omega⟩
            · rintro ⟨i, hi, h1, h2⟩
              refine ⟨i, List.mem_range.2 hi, ?_⟩
              unfold inB
              simp
              omega
          rw [hres] at HC
          have hbb : (bit zs p == bit zs p) = true := by simp
          generalize bit zs p = X at *
          clear ha3 hA3 hres HCnt HAll HPos HA2 Ha2 hE hK
          go_wp2_with fail
          refine HC.out.mono ?_
          rintro e w5 ⟨rfl, hb5⟩
          have HB5 := Lib.hid (HB3.out.trans (hb5.mono HB3.out.size))
          clear hb5
          go_wp2
          go_ret
          exact ⟨rfl, HB5.out⟩
        · have d1 : (spotE zs q k 1 != 0) = true := by simpa using hK
          rw [show hasV zs q k = false by rw [hasV, if_neg hK]]
          clear ha3 hA3 HCnt HAll HPos HA2 Ha2 hE hK
          go_wp2
          go_ret
          exact ⟨rfl, HB3.out⟩
  · have hb : (marksE zs m != 0) = true := by simpa using hE
    go_enter Try.func4, Try.ntmps4
    go_wp2_with fail
    refine (marks_any _).mono ?_
    rintro e w1 ⟨rfl, hb1⟩
    have hB1 := b0.trans (hb1.mono b0.size)
    go_wp2_with fail
    refine (Runs_any A n c m zs _ hn hm ((ha.below hB1 (Nat.le_refl _)).more hB1.size)).mono ?_
    rintro e w2 ⟨A2, k2, c2, rfl, hb2, hkc, h2⟩
    obtain ⟨_, rfl⟩ := h2.resolve_right (fun h => hE h.1)
    have HB2 := Lib.hid (hB1.trans (hb2.mono hB1.size))
    clear h2 hc0 hb1 hb2 hB1 b0 ha hE
    go_wp2
    go_ret
    exact ⟨rfl, HB2.out⟩
end Go.Proofs.Ytcdlgohhjnpbmaa
