/-
  The walk of TallyDrops, given what Drop answers ('DropC').
-/
import Derived.Test.YtgekghlmkfkbjaaTallyCW
import Derived.Test.YtgekghlmkfkbjaaTallyK
import Derived.Test.YtgekghlmkfkbjaaCloneF
import Derived.StillTailTactics
namespace Go.Proofs.Ytgekghlmkfkbjaa
open Go.RowKit

/-- What stays is what a root names, or one of those that stay. -/
theorem stay_iff {zs fr : List Int} {x : Int} (hx : x ∈ livesI zs) : x ∈ stayL zs fr ↔ x ∈ fr ∨ ∃ y ∈ livesI zs, y ∉ goneL zs fr ∧ x ∈ namesOf zs y.toNat := by
  have hpos : 0 ≤ x := (lives_lt hx).1
  constructor
  · intro h
    rcases cnt_pos.1 (stayL_named h) with h1 | ⟨y, hy, h2⟩
    · exact .inl h1
    · exact .inr ⟨y, stayL_lives hy, fun h3 => (gone_mem.1 h3).2 hy, by
        unfold namesOf
        exact List.mem_filter.2 ⟨h2, by simpa using hpos⟩⟩
  · intro h
    have hS : cntO zs fr (x :: stayL zs fr) x ≠ 0 := by
      rcases h with h | ⟨y, hy, h1, h2⟩
      · exact cnt_pos.2 (.inl h)
      · have hys : y ∈ stayL zs fr := Classical.byContradiction fun h3 => h1 (gone_mem.2 ⟨hy, h3⟩)
        exact cnt_pos.2 (.inr ⟨y, List.mem_cons_of_mem _ hys, (List.mem_filter.1 h2).1⟩)
    refine stayL_holds (S := x :: stayL zs fr) ?_ ?_ x List.mem_cons_self
    · intro y hy
      rcases List.mem_cons.1 hy with rfl | hy
      · exact hx
      · exact stayL_lives hy
    · intro y hy
      rcases List.mem_cons.1 hy with rfl | hy
      · exact hS
      · exact cnt_more (fun z hz => List.mem_cons_of_mem _ hz) (stayL_named hy)

set_option maxRecDepth 8000 in
set_option maxHeartbeats 2000000 in
theorem dropNames_any (A L : Option Addr) (n c lk lc g1 g2 g3 : Nat) (zs G : List Int) (x X : Int) (w : World) (hn : n ≤ maxLen) (hnc : n ≤ c) (ha : Arr .u64 w w.heap.size A n zs) (hlk : lk ≤ maxLen) (hL : Arr .i64 w w.heap.size L lk G) (h : arErr zs = 0) (hx : x ∈ livesI zs)
    (d1 : w.cell? ⟨g1, 0, none⟩ = some (.slice L lk lc)) (d2 : w.cell? ⟨g2, 0, none⟩ = some (.slice A n c)) (d3 : w.cell? ⟨g3, 0, none⟩ = some (.int .i64 X)) (l1 : g1 < w.heap.size) (l2 : g2 < w.heap.size) (l3 : g3 < w.heap.size) :
    Calls Try.prog 26 #[.int .i64 x, .pointer (some ⟨g1, 0, none⟩), .pointer (some ⟨g2, 0, none⟩), .pointer (some ⟨g3, 0, none⟩)] w fun e w' => e = .returned (.bool (decide (x ∉ G ∧ X ∈ namesOf zs x.toNat))) ∧ Below w.heap.size w w' := by
  obtain ⟨t, rfl⟩ := Int.eq_ofNat_of_zero_le (lives_lt hx).1
  rw [Int.toNat_natCast]
  have HLK := Lib.hid hlk
  have HL0 := Lib.hid hL
  by_cases hg : (t : Int) ∈ G
  · have HCL := Lib.hid (containsR_any L lk lc _ (t : Int) G w.drew hlk (hL.drewN 1))
    rw [show decide ((t : Int) ∈ G) = true by simpa using hg] at HCL
    rw [show decide ((t : Int) ∉ G ∧ X ∈ namesOf zs t) = false by simp [hg]]
    have HB : Hid (Below w.heap.size w (w.drewN 1)) := below_drewN (Below.refl _ w) 1
    clear ha h hx hg hL hlk
    go_enter Try.func26, Try.ntmps26
    go_wp2_with fail
    refine wp_region_still_lit (by kernel_rfl) (by kernel_rfl) ?_
    iterate 2 still_step
    still_call (HCL.out.mono fun _ _ h => ⟨h.1, h.2.symm⟩)
    iterate 9 still_step
    refine wpStill_nil ?_
    go_wp2
    go_ret
    exact ⟨rfl, HB.out⟩
  · rw [show decide ((t : Int) ∉ G ∧ X ∈ namesOf zs t) = decide (X ∈ namesOf zs t) by simp [hg]]
    have HCL : Hid (∀ wx, Arr .i64 wx wx.heap.size L lk G → Calls Try.prog 24 #[.slice L lk lc, .int .i64 (t : Int)] wx fun e w' => e = .returned (.bool false) ∧ wx = w') := fun wx h => by
      have h1 := containsR_any L lk lc _ (t : Int) G wx HLK.out h
      rwa [show decide ((t : Int) ∈ G) = false by simpa using hg] at h1
    have HQ := Lib.hid (refsAt_any A n c zs w.drew hn hnc (ha.drewN 1) h hx)
    have hnl : (namesOf zs t).length ≤ maxLen := by
      have h1 : (namesOf zs t).length ≤ (named zs t).length := List.length_filter_le _ _
      have h2 : (named zs t).length ≤ zs.length := by unfold named refWords; rw [List.length_map, List.length_take, List.length_drop]; omega
      have := arena_len h
      unfold maxLen
      omega
    have HNL : Hid ((namesOf zs t).length ≤ maxLen) := hnl
    have hL0 : Arr .i64 w.drew w.drew.heap.size L lk G := hL.drewN 1
    clear ha h hx hg hL hlk hnl
    go_enter Try.func26, Try.ntmps26
    go_wp2_with fail
    go_region_held3 (fun w' => w'.cell? ⟨g1, 0, none⟩ = some (.slice L lk lc) ∧ w'.cell? ⟨g2, 0, none⟩ = some (.slice A n c) ∧ w'.cell? ⟨g3, 0, none⟩ = some (.int .i64 X))
      (first
        | go_keep
        | exact ⟨y1, y2, y3⟩
        | exact ⟨d1, d2, d3⟩)
      (first
        | (go_at_call 24; refine (containsR_any A7 (namesOf zs t).length c7 _ X (namesOf zs t) w7 HNL.out hA7).mono ?_; rintro e w8 ⟨rfl, rfl⟩)
        | (go_at_call 20; refine HQ.out.mono ?_; rintro e w7 ⟨A7, c7, rfl, b7, hA7⟩; have b7 : Below w.heap.size w w7 := below_of_drew b7; have y1 := (b7.cell (p := ⟨g1, 0, none⟩) l1).trans d1; have y2 := (b7.cell (p := ⟨g2, 0, none⟩) l2).trans d2; have y3 := (b7.cell (p := ⟨g3, 0, none⟩) l3).trans d3)
        | (go_at_call 24; refine (HCL.out _ hL0).mono ?_; rintro e w8 ⟨rfl, rfl⟩))
    rename_i hHeld
    have HB := Lib.hid b7
    clear hHeld y1 y2 y3 b7 hA7
    obtain ⟨V, hV⟩ : ∃ V, decide (X ∈ namesOf zs t) = V := ⟨_, rfl⟩
    have HV := Lib.hid hV
    rw [hV]
    clear hV
    go_wp2
    go_ret
    exact ⟨by rw [HV.out]; rfl, HB.out⟩

theorem stays_anyD {zs fr : List Int} {x : Int} (hx : x ∈ livesI zs) (h : x ∉ fr) : ((livesI zs).any fun y => decide (y ∉ goneL zs fr ∧ x ∈ namesOf zs y.toNat)) = decide (x ∉ goneL zs fr) := by
  rw [Bool.eq_iff_iff, List.any_eq_true, decide_eq_true_eq]
  have h1 := stay_iff (fr := fr) hx
  have h2 : x ∉ goneL zs fr ↔ x ∈ stayL zs fr := by rw [gone_mem]; simp [hx]
  rw [h2, h1]
  constructor
  · rintro ⟨y, hy, hd⟩
    exact .inr ⟨y, hy, of_decide_eq_true hd⟩
  · rintro (h3 | ⟨y, hy, hd⟩)
    · exact absurd h3 h
    · exact ⟨y, hy, decide_eq_true hd⟩

set_option maxRecDepth 8000 in
set_option maxHeartbeats 4000000 in
theorem tallyDrops_of (hC : CountsC) (hD : DropC) (A F : Option Addr) (n c nf cf : Nat) (k : Int) (zs fr : List Int) (w : World) (hn : n ≤ maxLen) (hnc : n ≤ c) (ha : Arr .u64 w w.heap.size A n zs) (hnf : nf * 8 ≤ 140737488351232) (hfc : nf ≤ cf) (hf : Arr .i64 w w.heap.size F nf fr) (hk : (Lit.int .i64 k).wf = true) :
    Calls Try.prog 5 #[.slice A n c, .slice F nf cf, .int .i64 k] w fun e w' => e = .returned (.bool true) ∧ Below w.heap.size w w' := by
  have HA := Lib.hid ha
  have HF := Lib.hid hf
  have HN : Hid (n ≤ maxLen ∧ nf ≤ maxLen) := ⟨hn, by unfold maxLen; omega⟩
  have HNF := Lib.hid hnf
  have HWF := Lib.hid ha.2.1
  have HCC := Lib.hid (fun wx => tallies_any hC wx)
  have HD := Lib.hid (fun wx (hb : Below w.heap.size w wx) => hD A F n c nf cf k zs fr wx hn hnc (ha.later hb) hnf hfc (hf.later hb) hk)
  have b0 := (Below.refl _ w).alloc (Nat.le_refl _) (.cells #[.slice A n c] 22)
  have HX0 := Lib.hid (Box.new w 22 #[.slice A n c])
  have HB0 := Lib.hid b0
  have HFL := Lib.hid hf.1
  clear ha hf hn hnf hC hD b0 hk
  go_enter Try.func5, Try.ntmps5
  go_wp2_with fail
  refine (HCC.out _).mono ?_
  rintro e w1 ⟨rfl, b1⟩
  have HB1 := Lib.hid (bthen HB0.out b1)
  have HX1 := Lib.hid (HX0.out.below b1 HX0.out.lt)
  obtain ⟨ga, hga⟩ : ∃ g, w.heap.size = g := ⟨_, rfl⟩
  have HGA := Lib.hid hga
  have x0 : w1.cell? ⟨ga, 0, none⟩ = some (.slice A n c) := by rw [← hga]; exact HX1.out.cell 0
  have HT := Lib.hid (HD.out w1 HB1.out)
  rw [hga] at HX1
  clear b1 HB0 HX0 HCC HD
  go_wp2_with fail
  clear hga x0
  refine HT.out.mono ?_
  rintro e w2 ⟨L, lk, lc, rfl, b2, hlc, hL⟩
  have HLC := Lib.hid hlc
  have b3 := (Below.refl _ w2).alloc (Nat.le_refl _) (.cells #[.slice L lk lc] 23)
  have HB3 := Lib.hid (bthen (bthen HB1.out b2) b3)
  have HL3 := Lib.hid (hL.later b3)
  have HX3 := Lib.hid ((HX1.out.below b2 HX1.out.lt).below b3 (HX1.out.below b2 HX1.out.lt).lt)
  have HY3 := Lib.hid (Box.new w2 23 #[.slice L lk lc])
  clear b2 b3 hL hlc HT HB1 HX1
  by_cases h0 : dropE zs fr k = 0
  · rw [dropO_ok h0] at HL3
    obtain ⟨hf0, hk0, hkl⟩ := dropE_zero h0
    obtain ⟨i, rfl⟩ := Int.eq_ofNat_of_zero_le hk0
    rw [Int.toNat_natCast] at HL3
    have hao := (fromE_zero hf0).1
    have h256 := arena_len hao
    have hi : i < nf := by have := HFL.out; omega
    have HAO := Lib.hid hao
    have HF0 := Lib.hid hf0
    have hlk : lk ≤ 256 := by
      have h1 := HL3.out.1
      have h2 : (goneL zs (withoutL fr i)).length ≤ (livesI zs).length := List.length_filter_le _ _
      have h3 := lives_len h256
      omega
    have HLK : Hid (lk ≤ maxLen) := by unfold Hid maxLen; omega
    have HLV : Hid ((livesI zs).length ≤ maxLen) := by have := lives_len h256; unfold Hid maxLen; omega
    rw [h0]
    clear h0 hk0 hkl hf0 hao h256 hlk
    go_wp2_with fail
    generalize w2.alloc (.cells #[.slice L lk lc] 23) = w3 at *
    generalize w2.heap.size = gl at *
    have HK := Lib.hid (cloneIntsF F nf cf fr w3 (by have := HNF.out; omega) (HF.out.later HB3.out))
    refine HK.out.mono ?_
    rintro e w4 ⟨A4, c4, rfl, hO4, b4⟩
    have HB4 := Lib.hid b4
    have HJ : Hid (wrap64 ((i : Int) + 1) = (i : Int) + 1) := by have := HNF.out; unfold Hid wrap64; omega
    have HDE := Lib.hid (deleteI_any A4 nf c4 i _ fr w4 _ hO4 HFL.out hi rfl HNF.out)
    have hjj := HJ.out
    clear HK hO4 b4
    go_wp2_with fail
    clear hjj HJ
    refine HDE.out.mono ?_
    rintro e w5 ⟨rfl, hO5, b5⟩
    obtain ⟨fl, hfl⟩ : ∃ fl, withoutL fr i = fl := ⟨_, rfl⟩
    have hF0 : fromE zs fl = 0 := by rw [← hfl]; exact without_from HF0.out
    have hFN : nf - 1 ≤ maxLen := by have := HN.out; omega
    have hF5 : Arr .i64 w5 w5.heap.size A4 (nf - 1) fl := by
      rw [hfl] at hO5
      obtain ⟨A9, c9, hv, _, hA, _⟩ := hO5.arr
      injection hv with e1 e2 _
      rw [e1, e2]
      exact hA
    generalize nf - 1 = ml at *
    rw [hfl] at HL3
    have HFN := Lib.hid hFN
    have HF1 := Lib.hid hF0
    have b35 : Below w3.heap.size w3 w5 := HB4.out.trans b5
    have HB5 := Lib.hid (bthen HB3.out b35)
    have HL5 := Lib.hid (HL3.out.later b35)
    have HX5 := Lib.hid (HX3.out.below b35 HX3.out.lt)
    have HY5 := Lib.hid (HY3.out.below b35 HY3.out.lt)
    have HF5 := Lib.hid hF5
    have HRE := Lib.hid (Reach_any A A4 n c ml c4 zs fl w5 HN.out.1 hnc (HA.out.later HB5.out) hFN hF5)
    have x0 : w5.cell? ⟨ga, 0, none⟩ = some (.slice A n c) := HX5.out.cell 0
    clear hfl hF0 hFN hF5 hO5 b5 b35 HB3 HB4 HL3 HX3 HY3 HDE hi
    go_wp2_with fail
    clear x0
    refine HRE.out.mono ?_
    rintro e w6 ⟨R, rk, rc, rfl, b6, h6⟩
    rw [HF1.out]
    obtain ⟨_, hrk, hR⟩ := h6.resolve_left fun h => h.1 HF1.out
    have HRK : Hid (rk ≤ maxLen) := by
      have h1 := reachL_len (fr := fl) (arena_len HAO.out)
      unfold Hid maxLen
      omega
    have HB6 := Lib.hid (bthen HB5.out b6)
    have HR6 := Lib.hid hR
    have HL6 := Lib.hid (HL5.out.later b6)
    have HF6 := Lib.hid (HF5.out.later b6)
    have HX6 := Lib.hid (HX5.out.below b6 HX5.out.lt)
    have HY6 := Lib.hid (HY5.out.below b6 HY5.out.lt)
    have HBG := Lib.hid (fun wx (hb : Below w.heap.size w wx) => keepBegins_any A n c zs wx HN.out.1 (HA.out.later hb) (arErr_zero HAO.out).1)
    have HBG6 := Lib.hid (HBG.out w6 HB6.out)
    have x0 : w6.cell? ⟨ga, 0, none⟩ = some (.slice A n c) := HX6.out.cell 0
    clear h6 hrk hR b6 HB5 HL5 HF5 HX5 HY5 HRE
    go_wp2_with fail
    clear x0
    refine HBG6.out.mono ?_
    rintro e w7 ⟨B, bc, rfl, b7, hB⟩
    obtain ⟨m, hm⟩ : ∃ m, (livesI zs).length = m := ⟨_, rfl⟩
    have hm256 : m ≤ 256 := by rw [← hm]; exact lives_len (arena_len HAO.out)
    rw [hm] at hB HLV HBG
    rw [hm]
    have HM := Lib.hid hm
    have HB7 := Lib.hid (bthen HB6.out b7)
    have HR7 := Lib.hid (HR6.out.later b7)
    have HL7 := Lib.hid (HL6.out.later b7)
    have HF7 := Lib.hid (HF6.out.later b7)
    have HX7 := Lib.hid (HX6.out.below b7 HX6.out.lt)
    have HY7 := Lib.hid (HY6.out.below b7 HY6.out.lt)
    have HV7 := Lib.hid hB
    clear b7 hB hm HB6 HR6 HL6 HF6 HX6 HY6 HBG6
    go_wp2_with fail
    go_loopw [45] (fun x wr => ∃ j : Nat, j ≤ m ∧ x = .int .i64 j ∧ Hid (Below w7.heap.size w7 wr)) (fun x _ => m - (intOf x).toNat)
    case atStart => exact ⟨0, Nat.zero_le _, rfl, Below.refl _ _⟩
    case round =>
      obtain ⟨j, hj, rfl, HBw⟩ := hrel
      by_cases hlt : j < m
      · obtain ⟨b, off, rfl, hb, hcs⟩ := (HV7.out.below HBw.out (Nat.le_refl _)).2.2 (by omega)
        have hc := hcs j hlt
        have hXL := nth_mem (l := livesI zs) (j := j) (by rw [HM.out]; exact hlt)
        obtain ⟨X, hX⟩ : ∃ X, nth (livesI zs) j = X := ⟨_, rfl⟩
        rw [hX] at hc hXL
        obtain ⟨G, hG⟩ : ∃ G, goneL zs fl = G := ⟨_, rfl⟩
        have hgm : X ∈ G ↔ X ∉ stayL zs fl := by rw [← hG, gone_mem]; simp [hXL]
        have hsr : X ∈ reachL zs fl → X ∉ G := fun h h1 => hgm.1 h1 (reach_stays HWF.out HF1.out X h)
        have hsf : X ∈ fl → X ∉ G := fun h h1 => hgm.1 h1 ((stay_iff hXL).2 (.inl h))
        have hany : X ∉ fl → ((livesI zs).any fun y => decide (y ∉ G ∧ X ∈ namesOf zs y.toNat)) = decide (X ∉ G) := fun h => by rw [← hG]; exact stays_anyD hXL h
        have HSR := Lib.hid hsr
        have HSF := Lib.hid hsf
        have HAN := Lib.hid hany
        have HLG := HL7
        rw [hG] at HLG
        have hbw : Below w.heap.size w wr := bthen HB7.out HBw.out
        have ba := (Below.refl _ wr).alloc (Nat.le_refl _) (.cells #[.int .i64 X] 3)
        have HBA := Lib.hid (bthen hbw ba)
        have HB7A := Lib.hid (HBw.out.trans (ba.mono HBw.out.size))
        have HBX := Lib.hid (Box.new wr 3 #[.int .i64 X])
        have HXA := Lib.hid ((HX7.out.below HBw.out HX7.out.lt).below ba (Nat.lt_of_lt_of_le HX7.out.lt HBw.out.size))
        have HYA := Lib.hid ((HY7.out.below HBw.out HY7.out.lt).below ba (Nat.lt_of_lt_of_le HY7.out.lt HBw.out.size))
        clear hX hgm hsr hsf hany hcs hbw hXL hG
        obtain ⟨wa, hwa⟩ : ∃ wa, wr.alloc (.cells #[.int .i64 X] 3) = wa := ⟨_, rfl⟩
        obtain ⟨gx, hgx⟩ : ∃ gx, wr.heap.size = gx := ⟨_, rfl⟩
        rw [hwa] at ba HBA HB7A HBX HXA HYA
        rw [hgx] at HBX
        have HLA := Lib.hid (HLG.out.later HB7A.out)
        have HRA := Lib.hid (HR7.out.later HB7A.out)
        have HFA := Lib.hid (HF7.out.later HB7A.out)
        have HCL := Lib.hid (containsR_any L lk lc _ X G wa HLK.out HLA.out)
        have HCT := Lib.hid (containsR_any A4 ml c4 _ X fl wa HFN.out HFA.out)
        have HGL : Hid (ga < wa.heap.size ∧ gx < wa.heap.size ∧ gl < wa.heap.size) := ⟨HXA.out.lt, HBX.out.lt, HYA.out.lt⟩
        have HCN : Hid (∀ (B8 : Option Addr) (c8 : Nat) (wx : World), Below wa.heap.size wa wx → Arr .i64 wx wx.heap.size B8 m (livesI zs) → Calls Try.prog 25 #[.slice B8 m c8, .func (.func 26) #[] #[.pointer (some ⟨gl, 0, none⟩), .pointer (some ⟨ga, 0, none⟩), .pointer (some ⟨gx, 0, none⟩)]] wx fun e w' => e = .returned (.bool ((livesI zs).any fun y => decide (y ∉ G ∧ X ∈ namesOf zs y.toNat))) ∧ Below wx.heap.size wx w') := fun B8 c8 wx hb hB =>
          containsFnIn B8 m c8 26 #[.pointer (some ⟨gl, 0, none⟩), .pointer (some ⟨ga, 0, none⟩), .pointer (some ⟨gx, 0, none⟩)] (fun y => decide (y ∉ G ∧ X ∈ namesOf zs y.toNat)) (livesI zs) wx HLV.out hB Try.call26 fun y hy wy hby =>
            have hbb : Below wa.heap.size wa wy := hb.trans (hby.mono hb.size)
            dropNames_any A L n c lk lc gl ga gx zs G y X wy HN.out.1 hnc (HA.out.later (bthen HBA.out hbb)) HLK.out (HLA.out.later hbb) HAO.out hy ((HYA.out.below hbb HYA.out.lt).cell 0) ((HXA.out.below hbb HXA.out.lt).cell 0) ((HBX.out.below hbb HBX.out.lt).cell 0) (HYA.out.below hbb HYA.out.lt).lt (HXA.out.below hbb HXA.out.lt).lt (HBX.out.below hbb HBX.out.lt).lt
        have z1 : wr.cell? ⟨gl, 0, none⟩ = some (.slice L lk lc) := (HY7.out.below HBw.out HY7.out.lt).cell 0
        have z2 : gl < wr.heap.size := (HY7.out.below HBw.out HY7.out.lt).lt
        have z3 : (wr.alloc (.cells #[.int .i64 X] 3)).cell? ⟨gl, 0, none⟩ = some (.slice L lk lc) := by rw [hwa]; exact HYA.out.cell 0
        have x0 : wa.cell? ⟨gx, 0, none⟩ = some (.int .i64 X) := HBX.out.cell 0
        have x1 : wa.cell? ⟨gl, 0, none⟩ = some (.slice L lk lc) := HYA.out.cell 0
        have x2 : wa.cell? ⟨ga, 0, none⟩ = some (.slice A n c) := HXA.out.cell 0
        have HWA := Lib.hid hwa
        have HGX := Lib.hid hgx
        clear hwa ba HLG
        by_cases hin : X ∈ fl
        · have hng := HSF.out hin
          rw [show decide (X ∈ G) = false by simpa using hng] at HCL
          clear hng
          go_wp2_with fail
          rw [HWA.out]
          clear hgx
          refine HCL.out.mono ?_
          rintro e w8 ⟨rfl, rfl⟩
          go_wp2_with fail
          rw [show decide (X ∈ fl) = true by simpa using hin] at HCT
          clear hin
          refine HCT.out.mono ?_
          rintro e w8 ⟨rfl, rfl⟩
          go_wp2
          go_roundw
          case rel => exact ⟨j + 1, by omega, by go_num, HB7A⟩
          case measure => simp [intOf]; omega
        · rw [show decide (X ∈ fl) = false by simpa using hin] at HCT
          rw [HAN.out hin] at HCN
          clear hin
          by_cases hg : X ∈ G
          · rw [show decide (X ∈ G) = true by simpa using hg] at HCL
            rw [show decide (X ∉ G) = false by simp [hg]] at HCN
            have hnr : X ∉ reachL zs fl := fun h => HSR.out h hg
            have HCR := Lib.hid (containsR_any R rk rc _ X (reachL zs fl) wa HRK.out HRA.out)
            rw [show decide (X ∈ reachL zs fl) = false by simpa using hnr] at HCR
            clear hg hnr
            go_wp2_with fail
            rw [HWA.out]
            clear hgx
            refine HCL.out.mono ?_
            rintro e w8 ⟨rfl, rfl⟩
            go_wp2_with fail
            refine HCR.out.mono ?_
            rintro e w8 ⟨rfl, rfl⟩
            go_wp2_with fail
            refine HCT.out.mono ?_
            rintro e w8 ⟨rfl, rfl⟩
            go_wp2_with fail
            refine (HBG.out _ HBA.out).mono ?_
            rintro e w9 ⟨B8, c8, rfl, b8, hB8⟩
            have HB9 := Lib.hid (HB7A.out.trans (b8.mono HB7A.out.size))
            have HCN9 := Lib.hid (HCN.out B8 c8 w9 b8 hB8)
            have HBb := Lib.hid b8
            have v0 : w9.cell? ⟨gx, 0, none⟩ = some (.int .i64 X) := (HBX.out.below b8 HBX.out.lt).cell 0
            clear b8 hB8 HCN x0 x1 x2 z1 z2 z3
            go_wp2_with fail
            refine HCN9.out.mono ?_
            rintro e w10 ⟨rfl, b10⟩
            have HB10 := Lib.hid (HB9.out.trans (b10.mono HB9.out.size))
            clear b10 v0
            go_wp2
            go_roundw
            case rel => exact ⟨j + 1, by omega, by go_num, HB10⟩
            case measure => simp [intOf]; omega
          · rw [show decide (X ∈ G) = false by simpa using hg] at HCL
            rw [show decide (X ∉ G) = true by simp [hg]] at HCN
            clear hg
            go_wp2_with fail
            rw [HWA.out]
            clear hgx
            refine HCL.out.mono ?_
            rintro e w8 ⟨rfl, rfl⟩
            go_wp2_with fail
            refine HCT.out.mono ?_
            rintro e w8 ⟨rfl, rfl⟩
            go_wp2_with fail
            refine (HBG.out _ HBA.out).mono ?_
            rintro e w9 ⟨B8, c8, rfl, b8, hB8⟩
            have HB9 := Lib.hid (HB7A.out.trans (b8.mono HB7A.out.size))
            have HCN9 := Lib.hid (HCN.out B8 c8 w9 b8 hB8)
            have HBb := Lib.hid b8
            have v0 : w9.cell? ⟨gx, 0, none⟩ = some (.int .i64 X) := (HBX.out.below b8 HBX.out.lt).cell 0
            clear b8 hB8 HCN x0 x1 x2 z1 z2 z3
            go_wp2_with fail
            refine HCN9.out.mono ?_
            rintro e w10 ⟨rfl, b10⟩
            have HB10 := Lib.hid (HB9.out.trans (b10.mono HB9.out.size))
            clear b10 v0
            go_wp2
            go_roundw
            case rel => exact ⟨j + 1, by omega, by go_num, HB10⟩
            case measure => simp [intOf]; omega
      · obtain rfl : j = m := by omega
        have HBE := Lib.hid (bthen HB7.out HBw.out)
        clear HBw hlt
        go_wp2
        go_ret
        exact ⟨rfl, HBE.out⟩
  · rw [dropO_bad h0] at HL3
    obtain rfl : lk = 0 := by have := HL3.out.1; simpa using this.symm
    have x0 := HY3.out.cell 0
    generalize dropE zs fr k = E at *
    have hb : (E != 0) = true := by simpa using h0
    clear h0 HL3
    go_wp2
    go_ret
    exact ⟨rfl, HB3.out⟩
end Go.Proofs.Ytgekghlmkfkbjaa
