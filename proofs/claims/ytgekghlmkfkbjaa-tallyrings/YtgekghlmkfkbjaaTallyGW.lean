/-
  The walk of TallyRings, given what Drop and Rings answer ('DropC', 'RingsC').
-/
import Derived.Test.YtgekghlmkfkbjaaTallyDW
import Derived.Test.YtgekghlmkfkbjaaTallyV
import Derived.Test.YtgekghlmkfkbjaaGood
namespace Go.Proofs.Ytgekghlmkfkbjaa
open Go.RowKit

/-- Who stays, and is not reached. -/
def staysL (zs fr : List Int) : List Int := (livesI zs).filter fun x => !decide (x ∈ goneL zs fr ∨ x ∈ reachL zs fr)
theorem stays_mem {zs fr : List Int} {x : Int} : x ∈ staysL zs fr ↔ x ∈ stayL zs fr ∧ x ∉ reachL zs fr := by
  unfold staysL
  rw [List.mem_filter]
  constructor
  · rintro ⟨h1, h2⟩
    simp only [Bool.not_eq_true', decide_eq_false_iff_not, not_or] at h2
    exact ⟨Classical.byContradiction fun h => h2.1 (gone_mem.2 ⟨h1, h⟩), h2.2⟩
  · rintro ⟨h1, h2⟩
    refine ⟨stayL_lives h1, ?_⟩
    simp only [Bool.not_eq_true', decide_eq_false_iff_not, not_or]
    exact ⟨fun h => (gone_mem.1 h).2 h1, h2⟩
theorem stays_named {zs fr : List Int} {x : Int} (hz : ∀ z ∈ zs, (Lit.int .u64 z).wf = true) (h0 : fromE zs fr = 0) (h : x ∈ staysL zs fr) : ((staysL zs fr).any fun y => decide (x ∈ namesOf zs y.toNat)) = true := by
  obtain ⟨h1, h2⟩ := stays_mem.1 h
  rcases cnt_pos.1 (stayL_named h1) with h3 | ⟨y, hy, h3⟩
  · exact absurd ((reachL_mem hz h0).2 (.base h3)) h2
  · have hpos : 0 ≤ x := (lives_lt (stayL_lives h1)).1
    refine List.any_eq_true.2 ⟨y, stays_mem.2 ⟨hy, fun h4 => h2 ((reachL_mem hz h0).2 (.step ((reachL_mem hz h0).1 h4) h3 hpos))⟩, decide_eq_true ?_⟩
    unfold namesOf
    exact List.mem_filter.2 ⟨h3, by simpa using hpos⟩
theorem stays_rings {zs fr : List Int} : inAll (staysL zs fr) (ringsL zs fr) = true := inAll_true fun x hx => by
  obtain ⟨h1, h2⟩ := stays_mem.1 hx
  exact rings_mem.2 ⟨stayL_lives h1, h2, cnt_more (fun y hy => stayL_lives hy) (stayL_named h1)⟩

set_option maxRecDepth 8000 in
set_option maxHeartbeats 2000000 in
theorem ringStays_any (L R : Option Addr) (lk lc rk rc g1 g2 : Nat) (G RL : List Int) (x : Int) (w : World) (hlk : lk ≤ maxLen) (hrk : rk ≤ maxLen) (hL : Arr .i64 w w.heap.size L lk G) (hR : Arr .i64 w w.heap.size R rk RL)
    (d1 : w.cell? ⟨g1, 0, none⟩ = some (.slice L lk lc)) (d2 : w.cell? ⟨g2, 0, none⟩ = some (.slice R rk rc)) :
    Calls Try.prog 28 #[.int .i64 x, .pointer (some ⟨g1, 0, none⟩), .pointer (some ⟨g2, 0, none⟩)] w fun e w' => e = .returned (.bool (decide (x ∈ G ∨ x ∈ RL))) ∧ Below w.heap.size w w' := by
  have HL := Lib.hid (containsR_any L lk lc _ x G w hlk hL)
  have HR := Lib.hid (containsR_any R rk rc _ x RL w hrk hR)
  have HB := Lib.hid (Below.refl w.heap.size w)
  by_cases h : x ∈ G
  · rw [show decide (x ∈ G) = true by simpa using h] at HL
    rw [show decide (x ∈ G ∨ x ∈ RL) = true by simp [h]]
    clear hL hR h HR
    go_enter Try.func28, Try.ntmps28
    go_wp2_with fail
    refine HL.out.mono ?_
    rintro e w' ⟨rfl, rfl⟩
    go_wp2
    go_ret
    exact ⟨rfl, HB.out⟩
  · rw [show decide (x ∈ G) = false by simpa using h] at HL
    rw [show decide (x ∈ G ∨ x ∈ RL) = decide (x ∈ RL) by simp [h]]
    clear hL hR h
    go_enter Try.func28, Try.ntmps28
    go_wp2_with fail
    refine HL.out.mono ?_
    rintro e w' ⟨rfl, rfl⟩
    go_wp2_with fail
    refine HR.out.mono ?_
    rintro e w' ⟨rfl, rfl⟩
    go_wp2
    go_ret
    exact ⟨rfl, HB.out⟩

set_option maxRecDepth 8000 in
set_option maxHeartbeats 2000000 in
theorem ringNames_any (A : Option Addr) (n c g1 g2 : Nat) (zs : List Int) (x X : Int) (w : World) (hn : n ≤ maxLen) (hnc : n ≤ c) (ha : Arr .u64 w w.heap.size A n zs) (h : arErr zs = 0) (hx : x ∈ livesI zs) (d1 : w.cell? ⟨g1, 0, none⟩ = some (.slice A n c)) (d2 : w.cell? ⟨g2, 0, none⟩ = some (.int .i64 X)) (l1 : g1 < w.heap.size) (l2 : g2 < w.heap.size) :
    Calls Try.prog 29 #[.int .i64 x, .pointer (some ⟨g1, 0, none⟩), .pointer (some ⟨g2, 0, none⟩)] w fun e w' => e = .returned (.bool (decide (X ∈ namesOf zs x.toNat))) ∧ Below w.heap.size w w' := by
  obtain ⟨t, rfl⟩ := Int.eq_ofNat_of_zero_le (lives_lt hx).1
  rw [Int.toNat_natCast]
  have HQ := Lib.hid (refsAt_any A n c zs w.drew hn hnc (ha.drewN 1) h hx)
  have hnl : (namesOf zs t).length ≤ maxLen := by
    have h1 : (namesOf zs t).length ≤ (named zs t).length := List.length_filter_le _ _
    have h2 : (named zs t).length ≤ zs.length := by unfold named refWords; rw [List.length_map, List.length_take, List.length_drop]; omega
    have := arena_len h
    unfold maxLen
    omega
  have HNL : Hid ((namesOf zs t).length ≤ maxLen) := hnl
  clear ha h hx hnl
  go_enter Try.func29, Try.ntmps29
  go_wp2_with fail
  go_region_held3 (fun w' => w'.cell? ⟨g1, 0, none⟩ = some (.slice A n c) ∧ w'.cell? ⟨g2, 0, none⟩ = some (.int .i64 X))
    (first
      | go_keep
      | exact ⟨y1, y2⟩)
    (first
      | (go_at_call 24; refine (containsR_any A7 (namesOf zs t).length c7 _ X (namesOf zs t) w7 HNL.out hA7).mono ?_; rintro e w8 ⟨rfl, rfl⟩)
      | (go_at_call 20; refine HQ.out.mono ?_; rintro e w7 ⟨A7, c7, rfl, b7, hA7⟩; have b7 : Below w.heap.size w w7 := below_of_drew b7; have y1 := (b7.cell (p := ⟨g1, 0, none⟩) l1).trans d1; have y2 := (b7.cell (p := ⟨g2, 0, none⟩) l2).trans d2))
  rename_i hHeld
  have HB := Lib.hid b7
  clear hHeld y1 y2 b7 hA7
  obtain ⟨V, hV⟩ : ∃ V, decide (X ∈ namesOf zs t) = V := ⟨_, rfl⟩
  have HV := Lib.hid hV
  rw [hV]
  clear hV
  go_wp2
  go_ret
  exact ⟨by rw [HV.out]; rfl, HB.out⟩

set_option maxRecDepth 8000 in
set_option maxHeartbeats 4000000 in
theorem tallyRings_of (hC : CountsC) (hD : DropC) (hR : RingsC) (A F : Option Addr) (n c nf cf : Nat) (k : Int) (zs fr : List Int) (w : World) (hn : n ≤ maxLen) (hnc : n ≤ c) (ha : Arr .u64 w w.heap.size A n zs) (hnf : nf * 8 ≤ 140737488351232) (hfc : nf ≤ cf) (hf : Arr .i64 w w.heap.size F nf fr) (hk : (Lit.int .i64 k).wf = true) :
    Calls Try.prog 6 #[.slice A n c, .slice F nf cf, .int .i64 k] w fun e w' => e = .returned (.bool true) ∧ Below w.heap.size w w' := by
  have HA := Lib.hid ha
  have HF := Lib.hid hf
  have HN : Hid (n ≤ maxLen ∧ nf ≤ maxLen) := ⟨hn, by unfold maxLen; omega⟩
  have HNF := Lib.hid hnf
  have HWF := Lib.hid ha.2.1
  have HCC := Lib.hid (fun wx => tallies_any hC wx)
  have HD := Lib.hid (fun wx (hb : Below w.heap.size w wx) => hD A F n c nf cf k zs fr wx hn hnc (ha.later hb) hnf hfc (hf.later hb) hk)
  have HRR := Lib.hid hR
  have b0 := (Below.refl _ w).alloc (Nat.le_refl _) (.cells #[.slice A n c] 22)
  have HX0 := Lib.hid (Box.new w 22 #[.slice A n c])
  have HB0 := Lib.hid b0
  have HFL := Lib.hid hf.1
  clear ha hf hn hnf hC hD hR b0 hk
  go_enter Try.func6, Try.ntmps6
  go_wp2_with fail
  refine (HCC.out _).mono ?_
  rintro e w1 ⟨rfl, b1⟩
  have HB1 := Lib.hid (bthen HB0.out b1)
  have HX1 := Lib.hid (HX0.out.below b1 HX0.out.lt)
  obtain ⟨ga, hga⟩ : ∃ g, w.heap.size = g := ⟨_, rfl⟩
  have HGA := Lib.hid hga
  have x0 : w1.cell? ⟨ga, 0, none⟩ = some (.slice A n c) := by rw [← hga]; exact HX1.out.cell 0
  have HT := Lib.hid (HD.out w1 HB1.out)
  rw [hga] at HX1
  clear b1 HB0 HX0 HCC HD
  go_wp2_with fail
  clear hga x0
  refine HT.out.mono ?_
  rintro e w2 ⟨L, lk, lc, rfl, b2, hlc, hL⟩
  have HLC := Lib.hid hlc
  have b3 := (Below.refl _ w2).alloc (Nat.le_refl _) (.cells #[.slice L lk lc] 23)
  have HB3 := Lib.hid (bthen (bthen HB1.out b2) b3)
  have HL3 := Lib.hid (hL.later b3)
  have HX3 := Lib.hid ((HX1.out.below b2 HX1.out.lt).below b3 (HX1.out.below b2 HX1.out.lt).lt)
  have HY3 := Lib.hid (Box.new w2 23 #[.slice L lk lc])
  clear b2 b3 hL hlc HT HB1 HX1
  by_cases h0 : dropE zs fr k = 0
  · rw [dropO_ok h0] at HL3
    obtain ⟨hf0, hk0, hkl⟩ := dropE_zero h0
    obtain ⟨i, rfl⟩ := Int.eq_ofNat_of_zero_le hk0
    rw [Int.toNat_natCast] at HL3
    have hao := (fromE_zero hf0).1
    have h256 := arena_len hao
    have hi : i < nf := by have := HFL.out; omega
    have HAO := Lib.hid hao
    have HF0 := Lib.hid hf0
    have hlk : lk ≤ 256 := by
      have h1 := HL3.out.1
      have h2 : (goneL zs (withoutL fr i)).length ≤ (livesI zs).length := List.length_filter_le _ _
      have h3 := lives_len h256
      omega
    have HLK : Hid (lk ≤ maxLen) := by unfold Hid maxLen; omega
    have HLV : Hid ((livesI zs).length ≤ maxLen) := by have := lives_len h256; unfold Hid maxLen; omega
    rw [h0]
    clear h0 hk0 hkl hf0 hao h256 hlk
    go_wp2_with fail
    generalize w2.alloc (.cells #[.slice L lk lc] 23) = w3 at *
    generalize w2.heap.size = gl at *
    have HK := Lib.hid (cloneIntsF F nf cf fr w3 (by have := HNF.out; omega) (HF.out.later HB3.out))
    refine HK.out.mono ?_
    rintro e w4 ⟨A4, c4, rfl, hO4, b4⟩
    have HB4 := Lib.hid b4
    have HJ : Hid (wrap64 ((i : Int) + 1) = (i : Int) + 1) := by have := HNF.out; unfold Hid wrap64; omega
    have HDE := Lib.hid (deleteI_any A4 nf c4 i _ fr w4 _ hO4 HFL.out hi rfl HNF.out)
    have hjj := HJ.out
    clear HK hO4 b4
    go_wp2_with fail
    clear hjj HJ
    refine HDE.out.mono ?_
    rintro e w5 ⟨rfl, hO5, b5⟩
    obtain ⟨fl, hfl⟩ : ∃ fl, withoutL fr i = fl := ⟨_, rfl⟩
    have hF0 : fromE zs fl = 0 := by rw [← hfl]; exact without_from HF0.out
    have hFN : nf - 1 ≤ maxLen := by have := HN.out; omega
    have hF5 : Arr .i64 w5 w5.heap.size A4 (nf - 1) fl ∧ nf - 1 ≤ c4 := by
      rw [hfl] at hO5
      obtain ⟨A9, c9, hv, hle, hA, _⟩ := hO5.arr
      injection hv with e1 e2 e3
      rw [e1, e2, e3]
      exact ⟨hA, hle⟩
    obtain ⟨hF5, hfc4⟩ := hF5
    have hml8 : (nf - 1) * 8 ≤ 140737488351232 := by have := HNF.out; omega
    have HML := Lib.hid (And.intro hml8 hfc4)
    clear hml8 hfc4
    generalize nf - 1 = ml at *
    rw [hfl] at HL3
    have HFN := Lib.hid hFN
    have HF1 := Lib.hid hF0
    have b35 : Below w3.heap.size w3 w5 := HB4.out.trans b5
    have HB5 := Lib.hid (bthen HB3.out b35)
    have HL5 := Lib.hid (HL3.out.later b35)
    have HX5 := Lib.hid (HX3.out.below b35 HX3.out.lt)
    have HY5 := Lib.hid (HY3.out.below b35 HY3.out.lt)
    have HF5 := Lib.hid hF5
    have HRE := Lib.hid (Reach_any A A4 n c ml c4 zs fl w5 HN.out.1 hnc (HA.out.later HB5.out) hFN hF5)
    have x0 : w5.cell? ⟨ga, 0, none⟩ = some (.slice A n c) := HX5.out.cell 0
    clear hfl hF0 hFN hF5 hO5 b5 b35 HB3 HB4 HL3 HX3 HY3 HDE hi
    go_wp2_with fail
    clear x0
    refine HRE.out.mono ?_
    rintro e w6 ⟨R, rk, rc, rfl, b6, h6⟩
    rw [HF1.out]
    obtain ⟨_, hrk, hR⟩ := h6.resolve_left fun h => h.1 HF1.out
    have HRK : Hid (rk ≤ maxLen) := by
      have h1 := reachL_len (fr := fl) (arena_len HAO.out)
      unfold Hid maxLen
      omega
    have b7 := (Below.refl _ w6).alloc (Nat.le_refl _) (.cells #[.slice R rk rc] 23)
    have HB7 := Lib.hid (bthen (bthen HB5.out b6) b7)
    have HR7 := Lib.hid (hR.later b7)
    have HL7 := Lib.hid ((HL5.out.later b6).later b7)
    have HF7 := Lib.hid ((HF5.out.later b6).later b7)
    have HX6 := Lib.hid (HX5.out.below b6 HX5.out.lt)
    have HX7 := Lib.hid (HX6.out.below b7 HX6.out.lt)
    have HY6 := Lib.hid (HY5.out.below b6 HY5.out.lt)
    have HY7 := Lib.hid (HY6.out.below b7 HY6.out.lt)
    have HZ7 := Lib.hid (Box.new w6 23 #[.slice R rk rc])
    have HBG7 := Lib.hid (keepBeginsO_any A n c zs _ HN.out.1 (HA.out.later HB7.out) (arErr_zero HAO.out).1)
    have x0 : w6.cell? ⟨ga, 0, none⟩ = some (.slice A n c) := HX6.out.cell 0
    have x1 : ga < w6.heap.size := HX6.out.lt
    have x2 : (w6.alloc (.cells #[.slice R rk rc] 23)).cell? ⟨ga, 0, none⟩ = some (.slice A n c) := HX7.out.cell 0
    clear h6 hrk hR b6 b7 HB5 HL5 HF5 HX5 HY5 HX6 HY6 HRE
    go_wp2_with fail
    clear x0 x1 x2
    generalize w6.alloc (.cells #[.slice R rk rc] 23) = w7 at *
    generalize w6.heap.size = gr at *
    refine HBG7.out.mono ?_
    rintro e w8 ⟨B, bc, rfl, b8, _, hOB⟩
    have HDF := Lib.hid (deleteFnIn B _ bc 28 w7.heap.size #[.pointer (some ⟨gl, 0, none⟩), .pointer (some ⟨gr, 0, none⟩)] (fun x => decide (x ∈ goneL zs fl ∨ x ∈ reachL zs fl)) (livesI zs) w8 b8.size HLV.out rfl hOB Try.call28 fun x _ wx hb =>
      have hbb : Below w7.heap.size w7 wx := b8.trans hb
      ringStays_any L R lk lc rk rc gl gr (goneL zs fl) (reachL zs fl) x wx HLK.out HRK.out (HL7.out.later hbb) (HR7.out.later hbb) ((HY7.out.below hbb HY7.out.lt).cell 0) ((HZ7.out.below hbb HZ7.out.lt).cell 0))
    have HB8 := Lib.hid b8
    clear b8 hOB HBG7
    go_wp2_with fail
    refine HDF.out.mono ?_
    rintro e w9 ⟨S, sm, rfl, b9, hsc, hS⟩
    have hS : Arr .i64 w9 w9.heap.size S sm (staysL zs fl) := hS
    have b79 : Below w7.heap.size w7 w9 := HB8.out.trans b9
    have hm256 : sm ≤ 256 := by
      have h1 := hS.1
      have h2 : (staysL zs fl).length ≤ (livesI zs).length := List.length_filter_le _ _
      have h3 := lives_len (arena_len HAO.out)
      omega
    have HSM := Lib.hid hS.1
    have HB9 := Lib.hid (bthen HB7.out b79)
    have HF9 := Lib.hid (HF7.out.later b79)
    have HX9 := Lib.hid (HX7.out.below b79 HX7.out.lt)
    have HS9 := Lib.hid hS
    clear hS b79 b9 HB8 HDF HB7 HL7 HF7 HX7 HY7 HR7 HZ7
    go_wp2_with fail
    go_loopw [46] (fun x wr => ∃ j : Nat, j ≤ sm ∧ x = .int .i64 j ∧ Hid (Below w9.heap.size w9 wr)) (fun x _ => sm - (intOf x).toNat)
    case atStart => exact ⟨0, Nat.zero_le _, rfl, Below.refl _ _⟩
    case round =>
      obtain ⟨j, hj, rfl, HBw⟩ := hrel
      by_cases hlt : j < sm
      · obtain ⟨b, off, rfl, hb, hcs⟩ := (HS9.out.below HBw.out (Nat.le_refl _)).2.2 (by omega)
        have hc := hcs j hlt
        have hXL := nth_mem (l := staysL zs fl) (j := j) (by rw [HSM.out]; exact hlt)
        have HNA := Lib.hid (stays_named HWF.out HF1.out hXL)
        obtain ⟨X, hX⟩ : ∃ X, nth (staysL zs fl) j = X := ⟨_, rfl⟩
        rw [hX] at hc HNA
        have hbw : Below w.heap.size w wr := bthen HB9.out HBw.out
        have ba := (Below.refl _ wr).alloc (Nat.le_refl _) (.cells #[.int .i64 X] 3)
        have HBA := Lib.hid (bthen hbw ba)
        have HB9A := Lib.hid (HBw.out.trans (ba.mono HBw.out.size))
        have HBX := Lib.hid (Box.new wr 3 #[.int .i64 X])
        have HXA := Lib.hid ((HX9.out.below HBw.out HX9.out.lt).below ba (Nat.lt_of_lt_of_le HX9.out.lt HBw.out.size))
        clear hX hcs hbw hXL
        obtain ⟨wa, hwa⟩ : ∃ wa, wr.alloc (.cells #[.int .i64 X] 3) = wa := ⟨_, rfl⟩
        obtain ⟨gx, hgx⟩ : ∃ gx, wr.heap.size = gx := ⟨_, rfl⟩
        rw [hwa] at ba HBA HB9A HBX HXA
        rw [hgx] at HBX
        have HSA := Lib.hid (HS9.out.later HB9A.out)
        have HCN : Hid (Calls Try.prog 25 #[.slice (some ⟨b, off, none⟩) sm bc, .func (.func 29) #[] #[.pointer (some ⟨ga, 0, none⟩), .pointer (some ⟨gx, 0, none⟩)]] wa fun e w' => e = .returned (.bool ((staysL zs fl).any fun y => decide (X ∈ namesOf zs y.toNat))) ∧ Below wa.heap.size wa w') :=
          containsFnIn (some ⟨b, off, none⟩) sm bc 29 #[.pointer (some ⟨ga, 0, none⟩), .pointer (some ⟨gx, 0, none⟩)] (fun y => decide (X ∈ namesOf zs y.toNat)) (staysL zs fl) wa (by unfold maxLen; omega) HSA.out Try.call29 fun y hy wy hby =>
            ringNames_any A n c ga gx zs y X wy HN.out.1 hnc (HA.out.later (bthen HBA.out hby)) HAO.out (stayL_lives (stays_mem.1 hy).1) ((HXA.out.below hby HXA.out.lt).cell 0) ((HBX.out.below hby HBX.out.lt).cell 0) (HXA.out.below hby HXA.out.lt).lt (HBX.out.below hby HBX.out.lt).lt
        rw [HNA.out] at HCN
        have HWA := Lib.hid hwa
        clear hwa ba HNA
        go_wp2_with fail
        rw [HWA.out]
        clear hgx
        refine HCN.out.mono ?_
        rintro e w10 ⟨rfl, b10⟩
        have HB10 := Lib.hid (HB9A.out.trans (b10.mono HB9A.out.size))
        clear b10
        go_wp2
        go_roundw
        case rel => exact ⟨j + 1, by omega, by go_num, HB10⟩
        case measure => simp [intOf]; omega
      · obtain rfl : j = sm := by omega
        have HB10 := Lib.hid (bthen HB9.out HBw.out)
        have HF10 := Lib.hid (HF9.out.later HBw.out)
        have HS10 := Lib.hid (HS9.out.later HBw.out)
        have x0 : wr.cell? ⟨ga, 0, none⟩ = some (.slice A n c) := (HX9.out.below HBw.out HX9.out.lt).cell 0
        have HRG := Lib.hid (HRR.out A A4 n c ml c4 zs fl wr HN.out.1 hnc (HA.out.later HB10.out) HML.out.1 HML.out.2 HF10.out)
        clear HBw hlt
        go_wp2_with fail
        clear x0
        refine HRG.out.mono ?_
        rintro e w11 ⟨Q, q, qc, rfl, b11, _, hQ⟩
        rw [HF1.out]
        rw [ringsO_ok HF1.out] at hQ
        have HQL : Hid (q ≤ maxLen) := by
          have h1 := hQ.1
          have h2 : (ringsL zs fl).length ≤ (livesI zs).length := List.length_filter_le _ _
          have := HLV.out
          unfold Hid
          omega
        have b12 := (Below.refl _ w11).alloc (Nat.le_refl _) (.cells #[.int .i64 0, .int .i64 0] 24)
        have HGO := Lib.hid (good_any (some ⟨w11.heap.size, 0, none⟩) 2 2 _ [0, 0] _ (by decide) (two_arr w11 0 0 (by decide) (by decide)))
        rw [show bad [0, 0] = false from rfl] at HGO
        have HB12 := Lib.hid (bthen (bthen HB10.out b11) b12)
        have HWI := Lib.hid (keepWithin_any S Q j bc q qc (staysL zs fl) (ringsL zs fl) _ (by unfold maxLen; omega) HQL.out ((HS10.out.later b11).later b12) (hQ.later b12))
        rw [stays_rings] at HWI
        clear b11 b12 hQ HRG HB10 HS10
        go_wp2_with fail
        refine HGO.out.mono ?_
        rintro e w12 ⟨rfl, rfl⟩
        generalize (w11.alloc (.cells #[.int .i64 0, .int .i64 0] 24)) = w12 at *
        go_wp2_with fail
        refine HWI.out.mono ?_
        rintro e w13 ⟨rfl, b13⟩
        have HBE := Lib.hid (bthen HB12.out b13)
        clear b13
        go_wp2
        go_ret
        exact ⟨rfl, HBE.out⟩
  · rw [dropO_bad h0] at HL3
    generalize dropE zs fr k = E at *
    have hb : (E != 0) = true := by simpa using h0
    clear h0 HL3
    go_wp2
    go_ret
    exact ⟨rfl, HB3.out⟩
end Go.Proofs.Ytgekghlmkfkbjaa
