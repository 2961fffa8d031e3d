/-
  Contracts of package tint's Reach, Words and Mark, for every argument.
-/
import Derived.Test.YtcdlgohhjnpbmaaTintL
namespace Go.Proofs.Ytcdlgohhjnpbmaa
open Go.RowKit

/-- What is marked with room for all. -/
def onL (zs fr : List Int) : List Int := (marking (nxOf zs) 256 (livesI zs) fr).1.on
/-- What is reached, in order. -/
def reachL (zs fr : List Int) : List Int := (livesI zs).filter fun x => decide (x ∈ onL zs fr)
section
variable {zs fr : List Int}
theorem marks_on {room : Nat} (hz : ∀ z ∈ zs, (Lit.int .u64 z).wf = true) (h : fromE zs fr = 0) : (∀ x, x ∈ (marking (nxOf zs) room (livesI zs) fr).1.on ↔ Reach (nxOf zs) fr x) ∧ (marking (nxOf zs) room (livesI zs) fr).1.on.Nodup ∧ (∀ x ∈ (marking (nxOf zs) room (livesI zs) fr).1.on, x ∈ livesI zs) ∧ (marking (nxOf zs) room (livesI zs) fr).2 ≤ (marking (nxOf zs) room (livesI zs) fr).1.on.length := by
  obtain ⟨h1, h2⟩ := fromE_zero h
  exact marking_tells (lives_len (arena_len h1)) (lives_closed hz h1) h2 lives_pos
theorem reachL_mem (hz : ∀ z ∈ zs, (Lit.int .u64 z).wf = true) (h : fromE zs fr = 0) {x : Int} : x ∈ reachL zs fr ↔ Reach (nxOf zs) fr x := by
  obtain ⟨h1, _, h3, _⟩ := marks_on (room := 256) hz h
  unfold reachL onL
  rw [List.mem_filter, decide_eq_true_eq, h1]
  exact ⟨fun h => h.2, fun h => ⟨h3 x ((h1 x).2 h), h⟩⟩
theorem reachL_lives : ∀ x ∈ reachL zs fr, x ∈ livesI zs := fun _ hx => (List.mem_filter.1 hx).1
theorem reachL_rise : (reachL zs fr).Pairwise (· < ·) := List.Pairwise.filter _ lives_rise
theorem reachL_len (h : zs.length ≤ 256) : (reachL zs fr).length ≤ 256 := Nat.le_trans (List.length_filter_le _ _) (lives_len h)
end
/-- How many words it takes. -/
def takesN (zs fr : List Int) : Nat := cnt (coversN zs ((reachL zs fr).map Int.toNat)) 0 zs.length
/-- What Reach answers. -/
def ReachP (zs fr : List Int) (w : World) (e : Ending) (w' : World) : Prop := ∃ A k c, e = .returned (.tuple #[.slice A k c, .int .i64 (fromE zs fr)]) ∧ Below w.heap.size w w' ∧ ((fromE zs fr ≠ 0 ∧ k = 0) ∨ (fromE zs fr = 0 ∧ k = (reachL zs fr).length ∧ Arr .i64 w' w'.heap.size A k (reachL zs fr)))
/-- What Words answers. -/
def WordsP (zs fr : List Int) (w : World) (e : Ending) (w' : World) : Prop := ∃ v : Nat, e = .returned (.tuple #[.int .i64 v, .int .i64 (fromE zs fr)]) ∧ Below w.heap.size w w' ∧ ((fromE zs fr ≠ 0 ∧ v = 0) ∨ (fromE zs fr = 0 ∧ v = takesN zs fr))
/-- The error of Mark. -/
def markE (zs fr : List Int) (st : Int) : Int := if fromE zs fr = 0 then (if st < 1 ∨ 256 < st then 1 else 0) else fromE zs fr
/-- What Mark answers. -/
def MarkP (zs fr : List Int) (st : Int) (w : World) (e : Ending) (w' : World) : Prop := ∃ A k c, ∃ p d : Nat, e = .returned (.tuple #[.agg #[.slice A k c, .int .i64 p, .int .i64 d], .int .i64 (markE zs fr st)]) ∧ Below w.heap.size w w' ∧
  ((markE zs fr st ≠ 0 ∧ k = 0 ∧ p = 0 ∧ d = 0) ∨ (markE zs fr st = 0 ∧ p = (marking (nxOf zs) st.toNat (livesI zs) fr).2 ∧ d = (marking (nxOf zs) st.toNat (livesI zs) fr).1.deep ∧ ∃ ms, Arr .u64 w' w'.heap.size A k ms ∧ OnMarks zs ms (marking (nxOf zs) st.toNat (livesI zs) fr).1.on))

/-- What read leaves is a heap for the marker. -/
theorem hp_read {zs fr : List Int} {A S : Option Addr} {n c b : Nat} {w w1 W : World} (ha : Arr .u64 w w.heap.size A n zs) (hnc : n ≤ c) (h : fromE zs fr = 0) (hb1 : Below w.heap.size w w1) (hm : MapV Try.prog .i64 3 w1 b 300 (hdOf zs)) (hs : Arr .i64 w1 w1.heap.size S (livesI zs).length (livesI zs)) (hW : Below w1.heap.size w1 W) : Hp zs W.heap.size A n c b S W :=
  ⟨((ha.below hb1 (Nat.le_refl _)).below hW hb1.size).more (Nat.le_trans hb1.size hW.size), hm.below hW hm.lt, Nat.lt_of_lt_of_le hm.lt hW.size, (hs.below hW (Nat.le_refl _)).more hW.size, (fromE_zero h).1, hnc⟩

set_option maxRecDepth 8000 in
set_option maxHeartbeats 1000000 in
theorem reach_bad (A F : Option Addr) (n c nf cf : Nat) (zs fr : List Int) (w : World) (hn : n ≤ maxLen) (hnc : n ≤ c) (ha : Arr .u64 w w.heap.size A n zs) (hnf : nf ≤ maxLen) (hfr : Arr .i64 w w.heap.size F nf fr) (h : fromE zs fr ≠ 0) :
    Calls Try.prog 33 #[.slice A n c, .slice F nf cf] w (ReachP zs fr w) := by
  have HR := Lib.hid (tread_any A F n c nf cf zs fr w hn hnc ha hnf hfr)
  have HE := Lib.hid h
  have hb : (fromE zs fr != 0) = true := by simpa using h
  clear ha hfr hnf hn hnc h
  go_enter Try.func33, Try.ntmps33
  go_wp2_with fail
  refine HR.out.mono ?_
  rintro e w1 ⟨b1, h⟩
  rcases h with ⟨_, rfl⟩ | ⟨h0, _⟩
  · have HB := Lib.hid (b1.alloc b1.size (.cells #[.slice none 0 0, .map none, .slice none 0 0] 86))
    unfold heapZ
    clear b1 HR
    go_wp2
    go_ret2
    first | exact ⟨_, _, _, rfl, HB.out, .inl ⟨HE.out, rfl⟩⟩ | exact ⟨0, rfl, HB.out, .inl ⟨HE.out, rfl⟩⟩
  · exact absurd h0 HE.out
set_option maxRecDepth 8000 in
set_option maxHeartbeats 1000000 in
theorem words_bad (A F : Option Addr) (n c nf cf : Nat) (zs fr : List Int) (w : World) (hn : n ≤ maxLen) (hnc : n ≤ c) (ha : Arr .u64 w w.heap.size A n zs) (hnf : nf ≤ maxLen) (hfr : Arr .i64 w w.heap.size F nf fr) (h : fromE zs fr ≠ 0) :
    Calls Try.prog 34 #[.slice A n c, .slice F nf cf] w (WordsP zs fr w) := by
  have HR := Lib.hid (tread_any A F n c nf cf zs fr w hn hnc ha hnf hfr)
  have HE := Lib.hid h
  have hb : (fromE zs fr != 0) = true := by simpa using h
  clear ha hfr hnf hn hnc h
  go_enter Try.func34, Try.ntmps34
  go_wp2_with fail
  refine HR.out.mono ?_
  rintro e w1 ⟨b1, h⟩
  rcases h with ⟨_, rfl⟩ | ⟨h0, _⟩
  · have HB := Lib.hid (b1.alloc b1.size (.cells #[.slice none 0 0, .map none, .slice none 0 0] 86))
    unfold heapZ
    clear b1 HR
    go_wp2
    go_ret2
    first | exact ⟨_, _, _, rfl, HB.out, .inl ⟨HE.out, rfl⟩⟩ | exact ⟨0, rfl, HB.out, .inl ⟨HE.out, rfl⟩⟩
  · exact absurd h0 HE.out
theorem filter_snoc {l : List Int} {p : Int → Bool} {x : Int} : (l ++ [x]).filter p = l.filter p ++ (if p x = true then [x] else []) := by
  rw [List.filter_append]
  congr 1
  cases h : p x <;> simp [h]

set_option maxRecDepth 8000 in
set_option maxHeartbeats 2000000 in
theorem reach_good (A F : Option Addr) (n c nf cf : Nat) (zs fr : List Int) (w : World) (hn : n ≤ maxLen) (hnc : n ≤ c) (ha : Arr .u64 w w.heap.size A n zs) (hnf : nf ≤ maxLen) (hfr : Arr .i64 w w.heap.size F nf fr) (h : fromE zs fr = 0) :
    Calls Try.prog 33 #[.slice A n c, .slice F nf cf] w (ReachP zs fr w) := by
  have HR := Lib.hid (tread_any A F n c nf cf zs fr w hn hnc ha hnf hfr)
  have HE := Lib.hid h
  have HA := Lib.hid ha
  have HF := Lib.hid hfr
  have HON := Lib.hid (marks_on (room := 256) ha.2.1 h)
  have HNF := Lib.hid hnf
  have hl256 := lives_len (zs := zs) (arena_len (fromE_zero h).1)
  clear ha hfr hnf hn h
  go_enter Try.func33, Try.ntmps33
  go_wp2_with fail
  refine HR.out.mono ?_
  rintro e w1 ⟨b1, h⟩
  rcases h with ⟨h0, _⟩ | ⟨_, g, S, sc, rfl, hm, _, hs⟩
  · exact absurd HE.out h0
  · have b2 := (Below.refl _ w1).alloc (Nat.le_refl _) (.cells #[.slice A n c, .map (some g), .slice S (livesI zs).length sc] 86)
    have hH := hp_read HA.out hnc HE.out b1 hm hs b2
    have bw := b1.trans (b2.mono b1.size)
    have HC := Lib.hid (markAll_any (cf := cf) (lc := sc) _ hH HNF.out ((HF.out.below bw (Nat.le_refl _)).more bw.size) (fromE_zero HE.out).2 (room := 256) (Nat.le_refl _))
    have bx := Box.new w1 86 #[.slice A n c, .map (some g), .slice S (livesI zs).length sc]
    have HHP := Lib.hid hH
    have HBW := Lib.hid bw
    clear hm hs hH b1 b2 bw HR
    obtain ⟨ln, hln⟩ : ∃ q, (livesI zs).length = q := ⟨_, rfl⟩
    rw [hln] at HC bx HHP HBW hl256 ⊢
    have HLN := Lib.hid hln
    clear hln
    have c0 : (w1.alloc (.cells #[.slice A n c, .map (some g), .slice S ln sc] 86)).cell? ⟨w1.heap.size, 0, none⟩ = some (.slice A n c) := bx.cell 0
    have c1 : (w1.alloc (.cells #[.slice A n c, .map (some g), .slice S ln sc] 86)).cell? ⟨w1.heap.size, 1, none⟩ = some (.map (some g)) := bx.cell 1
    have c2 : (w1.alloc (.cells #[.slice A n c, .map (some g), .slice S ln sc] 86)).cell? ⟨w1.heap.size, 2, none⟩ = some (.slice S ln sc) := bx.cell 2
    clear bx
    go_wp2_with fail
    refine HC.out.mono ?_
    rintro e w3 ⟨b, rfl, hM, hb3⟩
    have HM := Lib.hid hM
    have HB3 := Lib.hid (HBW.out.trans (hb3.mono HBW.out.size))
    have HH3 := Lib.hid (HHP.out.below hb3)
    obtain ⟨_, _, _, _, _, _, _, h3⟩ := hM
    have e2 : w3.cell? ⟨b, 2, none⟩ = some (.slice S (livesI zs).length sc) := h3.box.cell 2
    rw [HLN.out] at e2
    clear h3 hb3 HC HHP HBW c0 c1 c2
    go_wp2_with fail
    go_loopw [9, 30] (fun v i wr => ∃ k : Nat, k ≤ ln ∧ i = .int .i64 k ∧ Hid (Own .i64 3 wr w3.heap.size v (((livesI zs).take k).filter fun x => decide (x ∈ onL zs fr))) ∧ Hid (Below w3.heap.size w3 wr)) (fun _ i _ => ln - (intOf i).toNat)
    case atStart => exact ⟨0, Nat.zero_le _, rfl, Own.nil, Below.refl _ _⟩
    case round =>
      obtain ⟨k, hk, rfl, HO, HBk⟩ := hrel
      clear e2
      by_cases hlt : k < ln
      · have hkl : k < (livesI zs).length := by rw [HLN.out]; exact hlt
        have hmem : nth (livesI zs) k ∈ livesI zs := nth_mem hkl
        have HTK : Hid (((livesI zs).take (k + 1)).filter (fun x => decide (x ∈ onL zs fr)) = ((livesI zs).take k).filter (fun x => decide (x ∈ onL zs fr)) ++ (if decide (nth (livesI zs) k ∈ onL zs fr) = true then [nth (livesI zs) k] else [])) := by
          show _ = _
          rw [take_nth hkl, filter_snoc]
        have hHk := HH3.out.below (HBk.out.mono (by have := HM.out; obtain ⟨_, _, _, _, _, _, _, h⟩ := this; exact Nat.le_trans h.bb (Nat.le_of_lt h.box.lt)))
        obtain ⟨b', off, rfl, _, hcs⟩ := hHk.lives.2.2 (by omega)
        have hc := hcs k hkl
        have hwf := hHk.lives.2.1 _ hmem
        have HMM := Lib.hid (marked_any wr hHk (HM.out.next HBk.out) HON.out.2.2.1 hmem)
        have hfl : (((livesI zs).take k).filter fun x => decide (x ∈ onL zs fr)).length ≤ 256 := Nat.le_trans (List.length_filter_le _ _) (by rw [List.length_take]; omega)
        clear hcs hmem hkl hHk
        generalize nth (livesI zs) k = X at *
        change Hid (Calls Try.prog _ _ _ fun e w' => e = .returned (.bool (decide (X ∈ onL zs fr))) ∧ ∃ q, wr.drewN q = w') at HMM
        by_cases hin : X ∈ onL zs fr
        · rw [show decide (X ∈ onL zs fr) = true by simpa using hin] at HMM HTK
          clear hin
          go_wp2_with fail
          refine HMM.out.mono ?_
          rintro e w4 ⟨rfl, q, rfl⟩
          have hO2 : Own .i64 3 (wr.drewN q) w3.heap.size _ (((livesI zs).take k).filter fun x => decide (x ∈ onL zs fr)) := HO.out
          have HB4 : Hid (Below w3.heap.size w3 (wr.drewN q)) := below_drewN HBk.out q
          clear HMM HO HBk hc
          generalize wr.drewN q = W4 at *
          obtain ⟨v', w5, hrun, hO', hB'⟩ := hO2.push (P := Try.prog) (t := 54) (ty := 54) Try.underlying54 intI_info (by omega) (x := X) hwf (by omega) HB4.out.size
          have HRN := Lib.hid hrun
          have HO5 : Hid (Own .i64 3 w5 w3.heap.size v' (((livesI zs).take (k + 1)).filter fun x => decide (x ∈ onL zs fr))) := by
            show Own _ _ _ _ _ _
            rw [HTK.out]; exact hO'
          have HB5 := Lib.hid (HB4.out.trans hB')
          clear hrun hO' hB' hO2 HB4 HTK
          go_wp2_with (at_builtin; refine wpList_append_run rfl (.tmp 37) (.tmp 39) 54 rfl rfl rfl HRN.out ?_)
          go_roundw
          case rel => exact ⟨k + 1, by omega, by go_num, HO5.out, HB5.out⟩
          case measure => simp [intOf]; omega
        · rw [show decide (X ∈ onL zs fr) = false by simpa using hin] at HMM HTK
          clear hin
          go_wp2_with fail
          refine HMM.out.mono ?_
          rintro e w4 ⟨rfl, q, rfl⟩
          have hT := HTK.out
          rw [if_neg (by decide), List.append_nil] at hT
          have hO6 := HO.out
          rw [← hT] at hO6
          have HO5 := Lib.hid hO6
          clear hT hO6
          have HB5 : Hid (Below w3.heap.size w3 (wr.drewN q)) := below_drewN HBk.out q
          clear HMM HO HBk hc HTK
          go_wp2
          go_roundw
          case rel => exact ⟨k + 1, by omega, by go_num, HO5.out, HB5.out⟩
          case measure => simp [intOf]; omega
      · obtain rfl : k = ln := by omega
        have HL : Hid (((livesI zs).take k).filter (fun x => decide (x ∈ onL zs fr)) = reachL zs fr) := by
          show _ = _
          rw [List.take_of_length_le (by rw [HLN.out]; exact Nat.le_refl _)]; rfl
        rw [HL.out] at HO
        obtain ⟨A', c', rfl, _, hA'⟩ := HO.out.arr
        have HA' := Lib.hid hA'
        have HBE := Lib.hid (HB3.out.trans (HBk.out.mono HB3.out.size))
        clear hA' HO HL HBk
        obtain ⟨m, hm⟩ : ∃ m, (reachL zs fr).length = m := ⟨_, rfl⟩
        rw [hm] at HA' ⊢
        have HMM := Lib.hid hm
        clear hm
        go_wp2
        go_ret2
        exact ⟨A', _, c', by rw [HE.out]; rfl, HBE.out, .inr ⟨HE.out, HMM.out.symm, HA'.out⟩⟩

theorem count_on {zs fr ms : List Int} (hz : ∀ z ∈ zs, (Lit.int .u64 z).wf = true) (h : fromE zs fr = 0) (hm : OnMarks zs ms (marking (nxOf zs) 256 (livesI zs) fr).1.on) : cnt (bit ms) 0 zs.length = takesN zs fr := by
  unfold takesN
  have h1 := (hm.same (on' := reachL zs fr) fun x => by rw [(marks_on hz h).1, reachL_mem hz h]).bits
  exact cnt_congr _ fun k hk => by simpa using h1 k hk

set_option maxRecDepth 8000 in
set_option maxHeartbeats 2000000 in
theorem words_good (A F : Option Addr) (n c nf cf : Nat) (zs fr : List Int) (w : World) (hn : n ≤ maxLen) (hnc : n ≤ c) (ha : Arr .u64 w w.heap.size A n zs) (hnf : nf ≤ maxLen) (hfr : Arr .i64 w w.heap.size F nf fr) (h : fromE zs fr = 0) :
    Calls Try.prog 34 #[.slice A n c, .slice F nf cf] w (WordsP zs fr w) := by
  have HR := Lib.hid (tread_any A F n c nf cf zs fr w hn hnc ha hnf hfr)
  have HE := Lib.hid h
  have HA := Lib.hid ha
  have HF := Lib.hid hfr
  have HNF := Lib.hid hnf
  have h256 := arena_len (fromE_zero h).1
  have hl := ha.1
  clear ha hfr hnf hn h
  go_enter Try.func34, Try.ntmps34
  go_wp2_with fail
  refine HR.out.mono ?_
  rintro e w1 ⟨b1, h⟩
  rcases h with ⟨h0, _⟩ | ⟨_, g, S, sc, rfl, hm, _, hs⟩
  · exact absurd HE.out h0
  · have b2 := (Below.refl _ w1).alloc (Nat.le_refl _) (.cells #[.slice A n c, .map (some g), .slice S (livesI zs).length sc] 86)
    have hH := hp_read HA.out hnc HE.out b1 hm hs b2
    have bw := b1.trans (b2.mono b1.size)
    have HC := Lib.hid (markAll_any (cf := cf) (lc := sc) _ hH HNF.out ((HF.out.below bw (Nat.le_refl _)).more bw.size) (fromE_zero HE.out).2 (room := 256) (Nat.le_refl _))
    have bx := Box.new w1 86 #[.slice A n c, .map (some g), .slice S (livesI zs).length sc]
    have HBW := Lib.hid bw
    clear hm hs hH b1 b2 bw HR
    obtain ⟨ln, hln⟩ : ∃ q, (livesI zs).length = q := ⟨_, rfl⟩
    rw [hln] at HC bx HBW ⊢
    clear hln
    have c0 : (w1.alloc (.cells #[.slice A n c, .map (some g), .slice S ln sc] 86)).cell? ⟨w1.heap.size, 0, none⟩ = some (.slice A n c) := bx.cell 0
    have c1 : (w1.alloc (.cells #[.slice A n c, .map (some g), .slice S ln sc] 86)).cell? ⟨w1.heap.size, 1, none⟩ = some (.map (some g)) := bx.cell 1
    have c2 : (w1.alloc (.cells #[.slice A n c, .map (some g), .slice S ln sc] 86)).cell? ⟨w1.heap.size, 2, none⟩ = some (.slice S ln sc) := bx.cell 2
    clear bx
    go_wp2_with fail
    refine HC.out.mono ?_
    rintro e w3 ⟨b, rfl, ⟨Am, nm, cm, ms, _, _, _, h3⟩, hb3⟩
    have HB3 := Lib.hid (HBW.out.trans (hb3.mono HBW.out.size))
    have e3 : w3.cell? ⟨b, 3, none⟩ = some (.slice Am nm cm) := h3.box.cell 3
    obtain ⟨m1, m2, m3, m4⟩ := marksE_zero h3.on.form
    have hnm : nm ≤ maxLen := by have := h3.arr.1; unfold maxLen; omega
    have hE : spotE ms (n : Int) 0 (n : Int) = 0 := spotE_ok (by rw [← hl]; exact h3.on.form) (validB_true (by omega))
    have HK := Lib.hid (Count_any Am nm cm _ (n : Int) 0 (n : Int) ms w3 hnm (wf_i64.2 (by omega)) (by decide) (wf_i64.2 (by omega)) h3.arr)
    have HV : Hid (countV ms (n : Int) 0 (n : Int) = ((takesN zs fr : Nat) : Int)) := by
      show _ = _
      unfold countV
      rw [if_pos hE, ← count_on HA.out.2.1 HE.out h3.on, hl]
      simp
    rw [hE, HV.out] at HK
    clear h3 hb3 HC HBW c0 c1 c2 m1 m2 m3 m4 hE HV hnm
    obtain ⟨V, hV⟩ : ∃ V, takesN zs fr = V := ⟨_, rfl⟩
    rw [hV] at HK
    have HVV := Lib.hid hV
    clear hV
    go_wp2_with fail
    refine HK.out.mono ?_
    rintro e w4 ⟨rfl, rfl⟩
    go_wp2
    go_ret2
    exact ⟨V, by rw [HE.out]; rfl, HB3.out, .inr ⟨HE.out, HVV.out.symm⟩⟩

theorem Reach_any (A F : Option Addr) (n c nf cf : Nat) (zs fr : List Int) (w : World) (hn : n ≤ maxLen) (hnc : n ≤ c) (ha : Arr .u64 w w.heap.size A n zs) (hnf : nf ≤ maxLen) (hfr : Arr .i64 w w.heap.size F nf fr) :
    Calls Try.prog 33 #[.slice A n c, .slice F nf cf] w (ReachP zs fr w) := by
  by_cases h : fromE zs fr = 0
  · exact reach_good A F n c nf cf zs fr w hn hnc ha hnf hfr h
  · exact reach_bad A F n c nf cf zs fr w hn hnc ha hnf hfr h
theorem Words_any (A F : Option Addr) (n c nf cf : Nat) (zs fr : List Int) (w : World) (hn : n ≤ maxLen) (hnc : n ≤ c) (ha : Arr .u64 w w.heap.size A n zs) (hnf : nf ≤ maxLen) (hfr : Arr .i64 w w.heap.size F nf fr) :
    Calls Try.prog 34 #[.slice A n c, .slice F nf cf] w (WordsP zs fr w) := by
  by_cases h : fromE zs fr = 0
  · exact words_good A F n c nf cf zs fr w hn hnc ha hnf hfr h
  · exact words_bad A F n c nf cf zs fr w hn hnc ha hnf hfr h

set_option maxRecDepth 8000 in
set_option maxHeartbeats 2000000 in
theorem mark_bad (A F : Option Addr) (n c nf cf : Nat) (st : Int) (zs fr : List Int) (w : World) (hn : n ≤ maxLen) (hnc : n ≤ c) (ha : Arr .u64 w w.heap.size A n zs) (hnf : nf ≤ maxLen) (hfr : Arr .i64 w w.heap.size F nf fr) (h : fromE zs fr ≠ 0) :
    Calls Try.prog 35 #[.slice A n c, .slice F nf cf, .int .i64 st] w (MarkP zs fr st w) := by
  have b0 := (Below.refl _ w).alloc (Nat.le_refl _) (.cells #[.slice none 0 0, .int .i64 0, .int .i64 0] 59)
  have HR := Lib.hid (tread_any A F n c nf cf zs fr _ hn hnc ((ha.below b0 (Nat.le_refl _)).more b0.size) hnf ((hfr.below b0 (Nat.le_refl _)).more b0.size))
  have HE := Lib.hid h
  have HME : Hid (markE zs fr st = fromE zs fr) := by show _ = _; unfold markE; rw [if_neg h]
  have hb : (fromE zs fr != 0) = true := by simpa using h
  clear ha hfr hnf hn hnc h b0
  go_enter Try.func35, Try.ntmps35
  go_wp2_with fail
  refine HR.out.mono ?_
  rintro e w1 ⟨b1, h⟩
  obtain ⟨bx, b1⟩ := boxed_call b1
  rcases h with ⟨_, rfl⟩ | ⟨h0, _⟩
  · have hB := b1.alloc b1.size (.cells #[.slice none 0 0, .map none, .slice none 0 0] 86)
    have bx2 := bx.alloc (.cells #[.slice none 0 0, .map none, .slice none 0 0] 86)
    have BX := Lib.hid bx2
    have HB := Lib.hid hB
    have s0 := bx2.soft 0
    have s1 := bx2.soft 1
    have s2 := bx2.soft 2
    have d0 : (w1.alloc (.cells #[.slice none 0 0, .map none, .slice none 0 0] 86)).cell? ⟨w.heap.size, 0, none⟩ = some (.slice none 0 0) := bx2.cell 0
    have d1 : (w1.alloc (.cells #[.slice none 0 0, .map none, .slice none 0 0] 86)).cell? ⟨w.heap.size, 1, none⟩ = some (.int .i64 0) := bx2.cell 1
    have d2 : (w1.alloc (.cells #[.slice none 0 0, .map none, .slice none 0 0] 86)).cell? ⟨w.heap.size, 2, none⟩ = some (.int .i64 0) := bx2.cell 2
    unfold heapZ
    clear b1 HR bx bx2 hB
    go_wp2
    generalize (w1.alloc (.cells #[.slice none 0 0, .map none, .slice none 0 0] 86)) = W1 at *
    have BY := ((BX.out.set 0 (.slice none 0 0)).set 1 (.int .i64 0)).set 2 (.int .i64 0)
    have HB' := below_set (below_set (below_set HB.out (Nat.le_refl _) 0 (.slice none 0 0)) (Nat.le_refl _) 1 (.int .i64 0)) (Nat.le_refl _) 2 (.int .i64 0)
    generalize (((W1.setCell ⟨w.heap.size, 0, none⟩ (.slice none 0 0)).setCell ⟨w.heap.size, 1, none⟩ (.int .i64 0)).setCell ⟨w.heap.size, 2, none⟩ (.int .i64 0)) = W at *
    have x0 : W.cell? ⟨w.heap.size, 0, none⟩ = some (.slice none 0 0) := BY.cell 0
    have x1 : W.cell? ⟨w.heap.size, 1, none⟩ = some (.int .i64 0) := BY.cell 1
    have x2 : W.cell? ⟨w.heap.size, 2, none⟩ = some (.int .i64 0) := BY.cell 2
    refine bodyPost_ret (v := .tuple #[.agg #[.slice none 0 0, .int .i64 0, .int .i64 0], .int .i64 (fromE zs fr)]) (by simp [results, Try.results35, go_sem, x0, x1, x2]) rfl ⟨_, _, _, 0, 0, by rw [HME.out]; rfl, HB', .inl ⟨by rw [HME.out]; exact HE.out, rfl, rfl, rfl⟩⟩
  · exact absurd h0 HE.out

set_option maxRecDepth 8000 in
set_option maxHeartbeats 2000000 in
theorem mark_arg (A F : Option Addr) (n c nf cf : Nat) (st : Int) (zs fr : List Int) (w : World) (hn : n ≤ maxLen) (hnc : n ≤ c) (ha : Arr .u64 w w.heap.size A n zs) (hnf : nf ≤ maxLen) (hfr : Arr .i64 w w.heap.size F nf fr) (h : fromE zs fr = 0) (hs : st < 1 ∨ 256 < st) :
    Calls Try.prog 35 #[.slice A n c, .slice F nf cf, .int .i64 st] w (MarkP zs fr st w) := by
  have b0 := (Below.refl _ w).alloc (Nat.le_refl _) (.cells #[.slice none 0 0, .int .i64 0, .int .i64 0] 59)
  have HR := Lib.hid (tread_any A F n c nf cf zs fr _ hn hnc ((ha.below b0 (Nat.le_refl _)).more b0.size) hnf ((hfr.below b0 (Nat.le_refl _)).more b0.size))
  have HE := Lib.hid h
  have HME : Hid (markE zs fr st = 1) := by show _ = _; unfold markE; rw [if_pos h, if_pos hs]
  have HS := Lib.hid hs
  clear ha hfr hnf hn hnc h b0 hs
  go_enter Try.func35, Try.ntmps35
  go_wp2_with fail
  refine HR.out.mono ?_
  rintro e w1 ⟨b1, h⟩
  obtain ⟨bx, b1⟩ := boxed_call b1
  rcases h with ⟨h0, _⟩ | ⟨_, g, S, sc, rfl, hm, _, hs⟩
  · exact absurd HE.out h0
  · clear hm hs HR
    obtain ⟨ln, hln⟩ : ∃ q, (livesI zs).length = q := ⟨_, rfl⟩
    rw [hln]
    clear hln
    have hB := b1.alloc b1.size (.cells #[.slice A n c, .map (some g), .slice S ln sc] 86)
    have bx2 := bx.alloc (.cells #[.slice A n c, .map (some g), .slice S ln sc] 86)
    have BX := Lib.hid bx2
    have HB := Lib.hid hB
    have s0 := bx2.soft 0
    have s1 := bx2.soft 1
    have s2 := bx2.soft 2
    have d0 : (w1.alloc (.cells #[.slice A n c, .map (some g), .slice S ln sc] 86)).cell? ⟨w.heap.size, 0, none⟩ = some (.slice none 0 0) := bx2.cell 0
    have d1 : (w1.alloc (.cells #[.slice A n c, .map (some g), .slice S ln sc] 86)).cell? ⟨w.heap.size, 1, none⟩ = some (.int .i64 0) := bx2.cell 1
    have d2 : (w1.alloc (.cells #[.slice A n c, .map (some g), .slice S ln sc] 86)).cell? ⟨w.heap.size, 2, none⟩ = some (.int .i64 0) := bx2.cell 2
    clear b1 bx bx2 hB
    have hend : ∀ W : World, W = (((w1.alloc (.cells #[.slice A n c, .map (some g), .slice S ln sc] 86)).setCell ⟨w.heap.size, 0, none⟩ (.slice none 0 0)).setCell ⟨w.heap.size, 1, none⟩ (.int .i64 0)).setCell ⟨w.heap.size, 2, none⟩ (.int .i64 0) →
        W.cell? ⟨w.heap.size, 0, none⟩ = some (.slice none 0 0) ∧ W.cell? ⟨w.heap.size, 1, none⟩ = some (.int .i64 0) ∧ W.cell? ⟨w.heap.size, 2, none⟩ = some (.int .i64 0) ∧ Below w.heap.size w W := by
      rintro W rfl
      have BY := ((BX.out.set 0 (.slice none 0 0)).set 1 (.int .i64 0)).set 2 (.int .i64 0)
      exact ⟨BY.cell 0, BY.cell 1, BY.cell 2, below_set (below_set (below_set HB.out (Nat.le_refl _) 0 (.slice none 0 0)) (Nat.le_refl _) 1 (.int .i64 0)) (Nat.le_refl _) 2 (.int .i64 0)⟩
    have HEND := Lib.hid hend
    clear hend
    rcases HS.out with hs | hs
    · have c1 : (st < 1) = True := eq_true hs
      clear HS hs
      go_wp2
      obtain ⟨x0, x1, x2, HB'⟩ := HEND.out _ rfl
      generalize ((((w1.alloc (.cells #[.slice A n c, .map (some g), .slice S ln sc] 86)).setCell ⟨w.heap.size, 0, none⟩ (.slice none 0 0)).setCell ⟨w.heap.size, 1, none⟩ (.int .i64 0)).setCell ⟨w.heap.size, 2, none⟩ (.int .i64 0)) = W at *
      refine bodyPost_ret (v := .tuple #[.agg #[.slice none 0 0, .int .i64 0, .int .i64 0], .int .i64 1]) (by simp [results, Try.results35, go_sem, x0, x1, x2]) rfl ⟨_, _, _, 0, 0, by rw [HME.out]; rfl, HB', .inl ⟨by rw [HME.out]; decide, rfl, rfl, rfl⟩⟩
    · have c1 : (st < 1) = False := eq_false (by omega)
      have c2 : (256 < st) = True := eq_true hs
      clear HS hs
      go_wp2
      obtain ⟨x0, x1, x2, HB'⟩ := HEND.out _ rfl
      generalize ((((w1.alloc (.cells #[.slice A n c, .map (some g), .slice S ln sc] 86)).setCell ⟨w.heap.size, 0, none⟩ (.slice none 0 0)).setCell ⟨w.heap.size, 1, none⟩ (.int .i64 0)).setCell ⟨w.heap.size, 2, none⟩ (.int .i64 0)) = W at *
      refine bodyPost_ret (v := .tuple #[.agg #[.slice none 0 0, .int .i64 0, .int .i64 0], .int .i64 1]) (by simp [results, Try.results35, go_sem, x0, x1, x2]) rfl ⟨_, _, _, 0, 0, by rw [HME.out]; rfl, HB', .inl ⟨by rw [HME.out]; decide, rfl, rfl, rfl⟩⟩

set_option maxRecDepth 8000 in
set_option maxHeartbeats 2000000 in
theorem mark_good (A F : Option Addr) (n c nf cf room : Nat) (zs fr : List Int) (w : World) (hn : n ≤ maxLen) (hnc : n ≤ c) (ha : Arr .u64 w w.heap.size A n zs) (hnf : nf ≤ maxLen) (hfr : Arr .i64 w w.heap.size F nf fr) (h : fromE zs fr = 0) (hs : 1 ≤ room ∧ room ≤ 256) :
    Calls Try.prog 35 #[.slice A n c, .slice F nf cf, .int .i64 room] w (MarkP zs fr room w) := by
  have b0 := (Below.refl _ w).alloc (Nat.le_refl _) (.cells #[.slice none 0 0, .int .i64 0, .int .i64 0] 59)
  have HR := Lib.hid (tread_any A F n c nf cf zs fr _ hn hnc ((ha.below b0 (Nat.le_refl _)).more b0.size) hnf ((hfr.below b0 (Nat.le_refl _)).more b0.size))
  have HA := Lib.hid ((ha.below b0 (Nat.le_refl _)).more b0.size)
  have HF := Lib.hid ((hfr.below b0 (Nat.le_refl _)).more b0.size)
  have HNF := Lib.hid hnf
  have HE := Lib.hid h
  have HB0 := Lib.hid b0
  have HME : Hid (markE zs fr (room : Int) = 0) := by show _ = _; unfold markE; rw [if_pos h, if_neg (by omega)]
  have c1 : ((room : Int) < 1) = False := eq_false (by omega)
  have c2 : (256 < (room : Int)) = False := eq_false (by omega)
  have HRM := Lib.hid hs.2
  clear ha hfr hnf hn h b0 hs
  go_enter Try.func35, Try.ntmps35
  go_wp2_with fail
  refine HR.out.mono ?_
  rintro e w1 ⟨b1, h⟩
  have HB1 := Lib.hid b1
  obtain ⟨bx0, b1⟩ := boxed_call b1
  rcases h with ⟨h0, _⟩ | ⟨_, g, S, sc, rfl, hm, _, hs⟩
  · exact absurd HE.out h0
  · have b2 := (Below.refl _ w1).alloc (Nat.le_refl _) (.cells #[.slice A n c, .map (some g), .slice S (livesI zs).length sc] 86)
    have hH := hp_read HA.out hnc HE.out HB1.out hm hs b2
    have bw := HB1.out.trans (b2.mono HB1.out.size)
    have HC := Lib.hid (markAll_any (cf := cf) (lc := sc) _ hH HNF.out ((HF.out.below bw (Nat.le_refl _)).more bw.size) (fromE_zero HE.out).2 HRM.out)
    have bx := Box.new w1 86 #[.slice A n c, .map (some g), .slice S (livesI zs).length sc]
    have BX0 := Lib.hid (bx0.alloc (.cells #[.slice A n c, .map (some g), .slice S (livesI zs).length sc] 86))
    have HBW := Lib.hid (b1.trans (b2.mono b1.size))
    clear hm hs hH b1 b2 bw HR HB1 bx0
    obtain ⟨ln, hln⟩ : ∃ q, (livesI zs).length = q := ⟨_, rfl⟩
    rw [hln] at HC bx HBW BX0 ⊢
    clear hln
    have c0 : (w1.alloc (.cells #[.slice A n c, .map (some g), .slice S ln sc] 86)).cell? ⟨w1.heap.size, 0, none⟩ = some (.slice A n c) := bx.cell 0
    have c3 : (w1.alloc (.cells #[.slice A n c, .map (some g), .slice S ln sc] 86)).cell? ⟨w1.heap.size, 1, none⟩ = some (.map (some g)) := bx.cell 1
    have c4 : (w1.alloc (.cells #[.slice A n c, .map (some g), .slice S ln sc] 86)).cell? ⟨w1.heap.size, 2, none⟩ = some (.slice S ln sc) := bx.cell 2
    clear bx
    go_wp2_with fail
    refine HC.out.mono ?_
    rintro e w3 ⟨b, rfl, ⟨Am, nm, cm, ms, S', sn, sc', h3⟩, hb3⟩
    have HB3 := Lib.hid (HBW.out.trans (hb3.mono HBW.out.size))
    have bx3 := BX0.out.below hb3 BX0.out.lt
    have HGB : Hid (w.heap.size + 1 ≤ (w1.alloc (.cells #[.slice A n c, .map (some g), .slice S ln sc] 86)).heap.size) := BX0.out.lt
    have HK3 := Lib.hid h3
    obtain ⟨p, hp⟩ : ∃ p, (marking (nxOf zs) room (livesI zs) fr).2 = p := ⟨_, rfl⟩
    obtain ⟨d, hd⟩ : ∃ d, (marking (nxOf zs) room (livesI zs) fr).1.deep = d := ⟨_, rfl⟩
    have e3 : w3.cell? ⟨b, 3, none⟩ = some (.slice Am nm cm) := h3.box.cell 3
    have e7 : w3.cell? ⟨b, 7, none⟩ = some (.int .i64 (marking (nxOf zs) room (livesI zs) fr).2) := h3.box.cell 7
    have e8 : w3.cell? ⟨b, 8, none⟩ = some (.int .i64 (marking (nxOf zs) room (livesI zs) fr).1.deep) := h3.box.cell 8
    rw [hp] at e7
    rw [hd] at e8
    have HP := Lib.hid hp
    have HD := Lib.hid hd
    have BX3 := Lib.hid bx3
    clear h3 hb3 HC HBW BX0 c0 c3 c4 hp hd bx3
    go_wp2_with fail
    refine wp_region_still_tail 13 (by kernel_rfl) (by kernel_rfl) ?_
    simp only [List.take_succ_cons, List.take_zero, List.drop_succ_cons, List.drop_zero]
    repeat still_step
    refine wpStill_nil ?_
    change wpList _ _ _ _ _ (w3.drewN 1)
    have HIG : Hid (High (w.heap.size + 1) Am nm) := HK3.out.hi.less HGB.out
    have HAM := Lib.hid (HK3.out.arr.drewN 1)
    have HON := Lib.hid HK3.out.on
    have BX4 : Hid (Box (w3.drewN 1) w.heap.size 59 #[.slice none 0 0, .int .i64 0, .int .i64 0]) := BX3.out
    have HB4 : Hid (Below w.heap.size w (w3.drewN 1)) := below_drewN HB3.out 1
    have hsz : w3.heap.size = (w3.drewN 1).heap.size := rfl
    rw [hsz] at HAM
    clear e3 e7 e8 HK3 BX3 HB3 hsz
    generalize w3.drewN 1 = W4 at *
    have s0 := BX4.out.soft 0
    have s1 := BX4.out.soft 1
    have s2 := BX4.out.soft 2
    have d0 : W4.cell? ⟨w.heap.size, 0, none⟩ = some (.slice none 0 0) := BX4.out.cell 0
    have d1 : W4.cell? ⟨w.heap.size, 1, none⟩ = some (.int .i64 0) := BX4.out.cell 1
    have d2 : W4.cell? ⟨w.heap.size, 2, none⟩ = some (.int .i64 0) := BX4.out.cell 2
    go_wp2
    have BY := ((BX4.out.set 0 (.slice Am nm cm)).set 1 (.int .i64 p)).set 2 (.int .i64 d)
    have HB' := below_set (below_set (below_set HB4.out (Nat.le_refl _) 0 (.slice Am nm cm)) (Nat.le_refl _) 1 (.int .i64 p)) (Nat.le_refl _) 2 (.int .i64 d)
    have ham := ((HAM.out.setOther HIG.out (Nat.lt_succ_self _) 0 (.slice Am nm cm)).setOther HIG.out (Nat.lt_succ_self _) 1 (.int .i64 p)).setOther HIG.out (Nat.lt_succ_self _) 2 (.int .i64 d)
    have hws : W4.heap.size = (((W4.setCell ⟨w.heap.size, 0, none⟩ (.slice Am nm cm)).setCell ⟨w.heap.size, 1, none⟩ (.int .i64 p)).setCell ⟨w.heap.size, 2, none⟩ (.int .i64 d)).heap.size := by simp [World.setCell]
    rw [hws] at ham
    clear hws
    generalize (((W4.setCell ⟨w.heap.size, 0, none⟩ (.slice Am nm cm)).setCell ⟨w.heap.size, 1, none⟩ (.int .i64 p)).setCell ⟨w.heap.size, 2, none⟩ (.int .i64 d)) = W at *
    have x0 : W.cell? ⟨w.heap.size, 0, none⟩ = some (.slice Am nm cm) := BY.cell 0
    have x1 : W.cell? ⟨w.heap.size, 1, none⟩ = some (.int .i64 p) := BY.cell 1
    have x2 : W.cell? ⟨w.heap.size, 2, none⟩ = some (.int .i64 d) := BY.cell 2
    refine bodyPost_ret (v := .tuple #[.agg #[.slice Am nm cm, .int .i64 p, .int .i64 d], .int .i64 0]) (by simp [results, Try.results35, go_sem, x0, x1, x2]) rfl ⟨Am, nm, cm, p, d, by rw [HME.out], HB', .inr ⟨HME.out, ?_, ?_, ms, ham, ?_⟩⟩
    · rw [Int.toNat_natCast]; exact HP.out.symm
    · rw [Int.toNat_natCast]; exact HD.out.symm
    · rw [Int.toNat_natCast]; exact HON.out
theorem Mark_any (A F : Option Addr) (n c nf cf : Nat) (st : Int) (zs fr : List Int) (w : World) (hn : n ≤ maxLen) (hnc : n ≤ c) (ha : Arr .u64 w w.heap.size A n zs) (hnf : nf ≤ maxLen) (hfr : Arr .i64 w w.heap.size F nf fr) :
    Calls Try.prog 35 #[.slice A n c, .slice F nf cf, .int .i64 st] w (MarkP zs fr st w) := by
  by_cases h : fromE zs fr = 0
  · by_cases hs : st < 1 ∨ 256 < st
    · exact mark_arg A F n c nf cf st zs fr w hn hnc ha hnf hfr h hs
    · obtain ⟨room, rfl⟩ := Int.eq_ofNat_of_zero_le (by omega : 0 ≤ st)
      exact mark_good A F n c nf cf room zs fr w hn hnc ha hnf hfr h (by omega)
  · exact mark_bad A F n c nf cf st zs fr w hn hnc ha hnf hfr h
end Go.Proofs.Ytcdlgohhjnpbmaa
