/-
  Package tally: read.
-/
import Derived.Test.YtgekghlmkfkbjaaTallyL
namespace Go.Proofs.Ytgekghlmkfkbjaa
open Go.RowKit

/-- What read answers. -/
def ReadT (zs fr : List Int) (w : World) (e : Ending) (w' : World) : Prop := Below w.heap.size w w' ∧
  ((fromE zs fr ≠ 0 ∧ e = .returned (.tuple #[tlZ, .int .i64 (fromE zs fr)])) ∨
   (fromE zs fr = 0 ∧ ∃ gc gr S q sc N, e = .returned (.tuple #[.agg #[.map (some gc), .map (some gr), .slice S q sc], .int .i64 0]) ∧ w.heap.size ≤ gc ∧ N ≤ 65836 + fr.length ∧ TlI zs w' gc gr N S q fun z => ((fr ++ refsL zs (livesI zs)).count z : Int)))
/-- What holds while read counts. -/
structure TRdI (zs : List Int) (w : World) (gc gr gt : Nat) (S : Option Addr) (q sc N : Nat) (l : List Int) (wr : World) : Prop where
  res : Box wr w.heap.size 48 #[.map none, .map none, .slice none 0 0]
  box : Box wr gt 48 #[.map (some gc), .map (some gr), .slice S q sc]
  tl : TlI zs wr gc gr N S q fun z => (l.count z : Int)
  below : Below w.heap.size w wr
  o1 : w.heap.size < gc
  o2 : gt ≠ gc
  len : l.length ≤ N
section
variable {zs l : List Int} {w wr wr' : World} {gc gr gt q sc N : Nat} {S : Option Addr} {x : Int}
theorem TRdI.next (h : TRdI zs w gc gr gt S q sc N l wr) (hb : Below wr.heap.size wr wr') : TRdI zs w gc gr gt S q sc N l wr' :=
  ⟨h.res.below hb h.res.lt, h.box.below hb h.box.lt, h.tl.next hb, h.below.trans (hb.mono h.below.size), h.o1, h.o2, h.len⟩
theorem TRdI.more (h : TRdI zs w gc gr gt S q sc N l wr) (hx : x ∈ livesI zs) (hg : wr.grownBy wr' (some gc)) (hm : MapF Try.prog .i64 .i64 3 3 wr' gc (N + 1) (put (cnIn (livesI zs) fun z => (l.count z : Int)) x ((l.count x : Int) + 1))) : TRdI zs w gc gr gt S q sc (N + 1) (l ++ [x]) wr' := by
  rw [cnIn_more hx] at hm
  have o1 := h.o1
  exact ⟨h.res.grown hg (by omega), h.box.grown hg h.o2, h.tl.only hg hm, h.below.trans (grown_below hg (by omega) h.below.size), h.o1, h.o2, by rw [List.length_append, List.length_singleton]; have := h.len; omega⟩
theorem TRdI.mono {N' : Nat} (h : TRdI zs w gc gr gt S q sc N l wr) (hn : N ≤ N') : TRdI zs w gc gr gt S q sc N' l wr :=
  ⟨h.res, h.box, ⟨h.tl.cn.mono hn, h.tl.rf, h.tl.st, h.tl.ne⟩, h.below, h.o1, h.o2, Nat.le_trans h.len hn⟩
theorem TRdI.look (h : TRdI zs w gc gr gt S q sc N l wr) (hx : x ∈ livesI zs) (hw : (Lit.int .i64 x).wf = true) (hN : N ≤ 2 ^ 50) : ∃ C : Nat, l.count x = C ∧ C ≤ 2 ^ 50 ∧
    Sem.run Try.prog (Instr.lookup 45 (.map (some gc)) (.int .i64 x) true) wr = .ok (.tuple #[.int .i64 (C : Int), .bool true]) wr ∧
    Sem.run Try.prog (Instr.lookup 45 (.map (some gc)) (.int .i64 x) false) wr = .ok (.int .i64 (C : Int)) wr := by
  have h1 := h.tl.cn.lookOk countT hw
  have h2 := h.tl.cn.look countT hw
  rw [cnIn_in hx] at h1 h2
  rw [cnIn_isSome, show decide (x ∈ livesI zs) = true by simpa using hx] at h1
  exact ⟨_, rfl, Nat.le_trans (List.count_le_length) (Nat.le_trans h.len hN), h1, h2⟩
end

set_option maxRecDepth 8000 in
set_option maxHeartbeats 2000000 in
theorem tallyRead_bad (A F : Option Addr) (n c nf cf : Nat) (zs fr : List Int) (w : World) (hn : n ≤ maxLen) (hnc : n ≤ c) (ha : Arr .u64 w w.heap.size A n zs) (h : arErr zs ≠ 0) :
    Calls Try.prog 32 #[.slice A n c, .slice F nf cf] w (ReadT zs fr w) := by
  have b0 := (Below.refl _ w).alloc (Nat.le_refl _) (.cells #[.map none, .map none, .slice none 0 0] 48)
  have HC := Lib.hid (tload_any A n c zs _ hn hnc ((ha.below b0 (Nat.le_refl _)).more b0.size))
  unfold TLoadP at HC
  have HE := Lib.hid (fromE_arena (fr := fr) h)
  have H0 := Lib.hid h
  clear ha b0
  generalize arErr zs = E at *
  have hb : (E != 0) = true := by simpa using h
  have hb2 := h
  clear h
  go_enter Try.func32, Try.ntmps32
  go_wp2_with fail
  refine HC.out.mono ?_
  rintro e w1 ⟨b1, ⟨_, rfl⟩ | ⟨h1, _⟩⟩
  · unfold tlZ
    obtain ⟨bx, b1⟩ := boxed_call b1
    have bx := bx.below ((Below.refl _ w1).alloc (Nat.le_refl _) (.cells #[.map none, .map none, .slice none 0 0] 48)) bx.lt
    have b1 := b1.alloc b1.size (.cells #[.map none, .map none, .slice none 0 0] 48)
    have s0 := bx.soft 0
    have s1 := bx.soft 1
    have s2 := bx.soft 2
    have d0 : (w1.alloc (.cells #[.map none, .map none, .slice none 0 0] 48)).cell? ⟨w.heap.size, 0, none⟩ = some (.map none) := bx.cell 0
    have d1 : (w1.alloc (.cells #[.map none, .map none, .slice none 0 0] 48)).cell? ⟨w.heap.size, 1, none⟩ = some (.map none) := bx.cell 1
    have d2 : (w1.alloc (.cells #[.map none, .map none, .slice none 0 0] 48)).cell? ⟨w.heap.size, 2, none⟩ = some (.slice none 0 0) := bx.cell 2
    have BX := Lib.hid bx
    have HB := Lib.hid b1
    clear bx b1 HC
    go_wp2
    have BY := ((BX.out.set 0 (.map none)).set 1 (.map none)).set 2 (.slice none 0 0)
    have HB' := below_set (below_set (below_set HB.out (Nat.le_refl _) 0 (.map none)) (Nat.le_refl _) 1 (.map none)) (Nat.le_refl _) 2 (.slice none 0 0)
    generalize ((((w1.alloc (.cells #[.map none, .map none, .slice none 0 0] 48)).setCell ⟨w.heap.size, 0, none⟩ (.map none)).setCell ⟨w.heap.size, 1, none⟩ (.map none)).setCell ⟨w.heap.size, 2, none⟩ (.slice none 0 0)) = W at *
    have x0 : W.cell? ⟨w.heap.size, 0, none⟩ = some (.map none) := BY.cell 0
    have x1 : W.cell? ⟨w.heap.size, 1, none⟩ = some (.map none) := BY.cell 1
    have x2 : W.cell? ⟨w.heap.size, 2, none⟩ = some (.slice none 0 0) := BY.cell 2
    refine bodyPost_ret (v := .tuple #[.agg #[.map none, .map none, .slice none 0 0], .int .i64 E]) (by simp [results, Try.results32, go_sem, x0, x1, x2]) rfl ⟨HB', .inl ⟨by rw [HE.out]; exact H0.out, by rw [HE.out]; rfl⟩⟩
  · exact absurd h1 hb2

set_option maxRecDepth 8000 in
set_option maxHeartbeats 4000000 in
theorem tallyRead_good (A F : Option Addr) (n c nf cf : Nat) (zs fr : List Int) (w : World) (hn : n ≤ maxLen) (hnc : n ≤ c) (ha : Arr .u64 w w.heap.size A n zs) (hnf : nf * 8 ≤ 140737488351232) (hfr : Arr .i64 w w.heap.size F nf fr) (h : arErr zs = 0) :
    Calls Try.prog 32 #[.slice A n c, .slice F nf cf] w (ReadT zs fr w) := by
  have hzw := ha.2.1
  have h256 := arena_len h
  have b0 := (Below.refl _ w).alloc (Nat.le_refl _) (.cells #[.map none, .map none, .slice none 0 0] 48)
  have HC := Lib.hid (tload_any A n c zs _ hn hnc ((ha.below b0 (Nat.le_refl _)).more b0.size))
  have HAR := Lib.hid h
  have HF0 := Lib.hid hfr
  have HRIN : Hid (∀ y ∈ livesI zs, ∀ x ∈ refL zs y, x ∈ livesI zs) := fun y hy x hx => refL_in hzw h hy hx
  have hll := lives_len h256
  have HRLN : Hid (∀ y, (refL zs y).length ≤ 256) := fun y => refL_len h256
  have HLW : Hid (∀ y ∈ livesI zs, (Lit.int .i64 y).wf = true) := fun y hy => by
    have := lives_lt hy
    exact wf_i64.2 (by omega)
  clear ha b0 h hfr hzw
  unfold TLoadP at HC
  go_enter Try.func32, Try.ntmps32
  go_wp2_with fail
  refine HC.out.mono ?_
  rintro e w1 ⟨b1, ⟨h1, _⟩ | ⟨_, gc, gr, S, q, sc, rfl, hgc, hT⟩⟩
  · exact absurd HAR.out h1
  obtain ⟨bx, b1⟩ := boxed_call b1
  have hgc' : w.heap.size < gc := by simp at hgc; omega
  have hgl := hT.cn.lt
  have hI : TRdI zs w gc gr w1.heap.size S q sc 300 [] (w1.alloc (.cells #[.map (some gc), .map (some gr), .slice S q sc] 48)) := by
    have b2 := (Below.refl _ w1).alloc (Nat.le_refl _) (.cells #[.map (some gc), .map (some gr), .slice S q sc] 48)
    exact ⟨bx.below b2 bx.lt, Box.new _ _ _, hT.next b2, b1.trans (b2.mono b1.size), hgc', by omega, Nat.zero_le _⟩
  have HI := Lib.hid hI
  have hq : (livesI zs).length = q := hT.st.1
  have HQ := Lib.hid hq
  clear hI hT bx b1 HC hgc hgl
  go_wp2_with fail
  generalize (w1.alloc (.cells #[.map (some gc), .map (some gr), .slice S q sc] 48)) = W1 at *
  obtain ⟨gt, hgt⟩ : ∃ g, w1.heap.size = g := ⟨_, rfl⟩
  rw [hgt] at HI
  rw [hgt]
  clear hgt
  go_loopw [27] (fun i wr => ∃ j : Nat, j ≤ nf ∧ i = .int .i64 j ∧ Hid (∀ i, i < j → nth fr i ∈ livesI zs) ∧ Hid (TRdI zs w gc gr gt S q sc (300 + j) (fr.take j) wr)) (fun i _ => nf - (intOf i).toNat)
  case atStart => exact ⟨0, by omega, rfl, (fun i hi => absurd hi (by omega)), HI⟩
  case round =>
    obtain ⟨j, hj, rfl, HP, hJ⟩ := hrel
    clear HI
    have hfl := HF0.out.1
    by_cases hlt : j < nf
    · have hwf := HF0.out.2.1 (nth fr j) (nth_mem (by omega))
      obtain ⟨b, off, rfl, _, hcs⟩ := (HF0.out.below hJ.out.below (Nat.le_refl _)).2.2 (by omega)
      have hc := hcs j hlt
      have d0 : wr.cell? ⟨gt, 0, none⟩ = some (.map (some gc)) := hJ.out.box.cell 0
      have htk : fr.take (j + 1) = fr.take j ++ [nth fr j] := by rw [List.take_succ_eq_append_getElem (by omega), nth_get _ _ (by omega)]
      by_cases hin : nth fr j ∈ livesI zs
      · obtain ⟨C, hC, hC2, hl1, hl2⟩ := hJ.out.look hin hwf (by omega)
        have HMR : Hid (∀ w', MapF Try.prog .i64 .i64 3 3 w' gc (300 + j + 1) (put (cnIn (livesI zs) fun z => ((fr.take j).count z : Int)) (nth fr j) ((C : Int) + 1)) → wr.grownBy w' (some gc) → TRdI zs w gc gr gt S q sc (300 + (j + 1)) (fr.take (j + 1)) w') := fun w' hm hg => by
          rw [← hC] at hm
          rw [htk]
          exact hJ.out.more hin hg hm
        have HPn : Hid (∀ i, i < j + 1 → nth fr i ∈ livesI zs) := fun x hx => by
          rcases Nat.lt_succ_iff_lt_or_eq.1 hx with h | h
          · exact HP.out x h
          · rw [h]; exact hin
        have HCN := Lib.hid hJ.out.tl.cn
        have e1 : IntKind.i64.wrap ((C : Int) + 1) = C + 1 := IntWalk.i64_in _ (by omega)
        have hw2 : (Lit.int .i64 ((C : Int) + 1)).wf = true := wf_i64.2 (by omega)
        clear hin HP hJ hcs hC htk
        generalize nth fr j = X at *
        go_wp2_with (at_mapUpdate; refine wpList_store_map countT _ rfl _ _ _ rfl rfl rfl rfl HCN.out (by unfold maxLen; omega) hwf hw2 ?_)
        intro w' hm hg
        have HN := Lib.hid (HMR.out w' hm hg)
        clear hm hg HMR HCN hl1 hl2 d0 hc
        go_wp2
        go_roundw
        case rel => exact ⟨j + 1, by omega, by go_num, HPn, HN⟩
        case measure => simp [intOf]; omega
      · have hl1 := hJ.out.tl.cn.lookOk countT hwf
        rw [cnIn_isSome, show decide (nth fr j ∈ livesI zs) = false by simpa using hin] at hl1
        have HFE : Hid (fromE zs fr = 5) := fromE_none HAR.out (nth_mem (by omega)) hin
        have s0 := hJ.out.res.soft 0
        have s1 := hJ.out.res.soft 1
        have s2 := hJ.out.res.soft 2
        have f0 : wr.cell? ⟨w.heap.size, 0, none⟩ = some (.map none) := hJ.out.res.cell 0
        have f1 : wr.cell? ⟨w.heap.size, 1, none⟩ = some (.map none) := hJ.out.res.cell 1
        have f2 : wr.cell? ⟨w.heap.size, 2, none⟩ = some (.slice none 0 0) := hJ.out.res.cell 2
        have BX := Lib.hid hJ.out.res
        have HB := Lib.hid hJ.out.below
        clear hin HP hJ hcs htk
        generalize (cnIn (livesI zs) (fun z => ((fr.take j).count z : Int)) (nth fr j)).getD 0 = G at *
        generalize nth fr j = X at *
        go_wp2
        have BY := ((BX.out.set 0 (.map none)).set 1 (.map none)).set 2 (.slice none 0 0)
        have HB' := below_set (below_set (below_set HB.out (Nat.le_refl _) 0 (.map none)) (Nat.le_refl _) 1 (.map none)) (Nat.le_refl _) 2 (.slice none 0 0)
        generalize (((wr.setCell ⟨w.heap.size, 0, none⟩ (.map none)).setCell ⟨w.heap.size, 1, none⟩ (.map none)).setCell ⟨w.heap.size, 2, none⟩ (.slice none 0 0)) = W at *
        have x0 : W.cell? ⟨w.heap.size, 0, none⟩ = some (.map none) := BY.cell 0
        have x1 : W.cell? ⟨w.heap.size, 1, none⟩ = some (.map none) := BY.cell 1
        have x2 : W.cell? ⟨w.heap.size, 2, none⟩ = some (.slice none 0 0) := BY.cell 2
        refine bodyPost_ret (v := .tuple #[.agg #[.map none, .map none, .slice none 0 0], .int .i64 5]) (by simp [results, Try.results32, go_sem, x0, x1, x2]) rfl ⟨HB', .inl ⟨by rw [HFE.out]; decide, by rw [HFE.out]; rfl⟩⟩
    · obtain rfl : j = nf := by omega
      rw [List.take_of_length_le (by omega)] at hJ
      have HFR : Hid (∀ x ∈ fr, x ∈ livesI zs) := fun x hx => by
        obtain ⟨i, hi, e⟩ := List.getElem_of_mem hx
        have := HP.out i (by omega)
        rwa [nth_get _ _ hi, e] at this
      clear HP hlt
      have d2 : wr.cell? ⟨gt, 2, none⟩ = some (.slice S q sc) := hJ.out.box.cell 2
      go_wp2_with fail
      clear d2
      generalize wr = W20 at *
      go_loopw [50] (fun i wr => ∃ k : Nat, k ≤ q ∧ i = .int .i64 k ∧ Hid (TRdI zs w gc gr gt S q sc (300 + j + 256 * k) (fr ++ refsL zs ((livesI zs).take k)) wr)) (fun i _ => q - (intOf i).toNat)
      case atStart => exact ⟨0, by omega, rfl, by rw [List.take_zero, show refsL zs [] = [] from rfl, List.append_nil]; exact hJ⟩
      case round =>
        obtain ⟨k, hk, rfl, hK⟩ := hrel
        clear hJ
        by_cases hlt : k < q
        · obtain ⟨b, off, rfl, _, hcs⟩ := hK.out.tl.st.2.2 (by omega)
          have hc := hcs k hlt
          have hmem : nth (livesI zs) k ∈ livesI zs := nth_mem (by omega)
          have hwf := HLW.out _ hmem
          have d1 : wr.cell? ⟨gt, 1, none⟩ = some (.map (some gr)) := hK.out.box.cell 1
          have htk : refsL zs ((livesI zs).take (k + 1)) = refsL zs ((livesI zs).take k) ++ refL zs (nth (livesI zs) k) := by
            rw [List.take_succ_eq_append_getElem (by omega), refsL_app, nth_get _ _ (by omega), refsL_one]
          obtain ⟨R, hR, hRL⟩ := hK.out.tl.rf
          obtain ⟨A', c', hA', hAr, _⟩ := hRL _ hmem
          have hlk := hR.look namesT hwf
          rw [show rvIn (livesI zs) R (nth (livesI zs) k) = some (R (nth (livesI zs) k)) from if_pos hmem, Option.getD_some, hA'] at hlk
          have HAr := Lib.hid hAr
          have HTK := Lib.hid htk
          have HIN := Lib.hid (HRIN.out _ hmem)
          have HLN := Lib.hid (HRLN.out (nth (livesI zs) k))
          clear hcs hR hRL hA' hAr hmem htk R
          generalize nth (livesI zs) k = Y at *
          obtain ⟨ln, hln⟩ : ∃ ln, (refL zs Y).length = ln := ⟨_, rfl⟩
          have HLL := Lib.hid hln
          rw [hln] at hlk HAr HLN
          clear hln
          go_wp2_with fail
          clear hlk d1 hc
          generalize wr = W30 at *
          go_loopw [59] (fun i wr => ∃ i' : Nat, i' ≤ ln ∧ i = .int .i64 i' ∧ Hid (TRdI zs w gc gr gt (some ⟨b, off, none⟩) q sc (300 + j + 256 * k + i') (fr ++ refsL zs ((livesI zs).take k) ++ (refL zs Y).take i') wr) ∧ Hid (Arr .i64 wr wr.heap.size A' ln (refL zs Y))) (fun i _ => ln - (intOf i).toNat)
          case atStart => exact ⟨0, by omega, rfl, by rw [List.take_zero, List.append_nil]; exact hK, HAr⟩
          case round =>
            obtain ⟨i', hi', rfl, hM, hAi⟩ := hrel
            clear hK HAr
            by_cases hlt2 : i' < ln
            · obtain ⟨b2, off2, rfl, _, hcs⟩ := hAi.out.2.2 (by omega)
              have hc := hcs i' hlt2
              have hmem : nth (refL zs Y) i' ∈ refL zs Y := nth_mem (by have := HLL.out; omega)
              have hin := HIN.out _ hmem
              have hwf := HLW.out _ hin
              have d0 : wr.cell? ⟨gt, 0, none⟩ = some (.map (some gc)) := hM.out.box.cell 0
              have htk : (refL zs Y).take (i' + 1) = (refL zs Y).take i' ++ [nth (refL zs Y) i'] := by rw [List.take_succ_eq_append_getElem (by have := HLL.out; omega), nth_get _ _ (by have := HLL.out; omega)]
              have hln := HLN.out
              obtain ⟨C, hC, hC2, hl1, hl2⟩ := hM.out.look hin hwf (by omega)
              have HMR : Hid (∀ w', MapF Try.prog .i64 .i64 3 3 w' gc (300 + j + 256 * k + i' + 1) (put (cnIn (livesI zs) fun z => ((fr ++ refsL zs ((livesI zs).take k) ++ (refL zs Y).take i').count z : Int)) (nth (refL zs Y) i') ((C : Int) + 1)) → wr.grownBy w' (some gc) → TRdI zs w gc gr gt (some ⟨b, off, none⟩) q sc (300 + j + 256 * k + (i' + 1)) (fr ++ refsL zs ((livesI zs).take k) ++ (refL zs Y).take (i' + 1)) w' ∧ Arr .i64 w' w'.heap.size (some ⟨b2, off2, none⟩) ln (refL zs Y)) := fun w' hm hg => by
                rw [← hC] at hm
                rw [htk, ← List.append_assoc]
                exact ⟨hM.out.more hin hg hm, (hAi.out.keepMap hM.out.tl.cn.nocell hg).more hg.size⟩
              have HCN := Lib.hid hM.out.tl.cn
              have e1 : IntKind.i64.wrap ((C : Int) + 1) = C + 1 := IntWalk.i64_in _ (by omega)
              have hw2 : (Lit.int .i64 ((C : Int) + 1)).wf = true := wf_i64.2 (by omega)
              clear hin hM hcs hC htk hAi hmem hl1
              generalize (fr ++ refsL zs ((livesI zs).take k) ++ (refL zs Y).take i') = l0 at HMR HCN
              generalize nth (refL zs Y) i' = X at *
              go_wp2_with (at_mapUpdate; refine wpList_store_map countT _ rfl _ _ _ rfl rfl rfl rfl HCN.out (by unfold maxLen; omega) hwf hw2 ?_)
              intro w' hm hg
              have HN := Lib.hid (HMR.out w' hm hg)
              clear hm hg HMR HCN hl2 d0 hc
              go_wp2
              go_roundw
              case rel => exact ⟨i' + 1, by omega, by go_num, HN.out.1, HN.out.2⟩
              case measure => simp [intOf]; omega
            · obtain rfl : i' = ln := by omega
              have hM2 := hM.out
              have htl : (refL zs Y).take i' = refL zs Y := List.take_of_length_le (by have := HLL.out; omega)
              rw [htl, List.append_assoc, ← HTK.out] at hM2
              have HN := Lib.hid (hM2.mono (N' := 300 + j + 256 * (k + 1)) (by have := HLN.out; omega))
              clear hM hM2 hAi
              go_wp2
              go_roundw
              case rel => exact ⟨k + 1, by omega, by go_num, HN.out⟩
              case measure => simp [intOf]; omega
        · obtain rfl : k = q := by omega
          rw [List.take_of_length_le (by omega)] at hK
          have HT := Lib.hid hK.out.tl
          have HGC : Hid (w.heap.size ≤ gc) := Nat.le_of_lt hK.out.o1
          have HB := Lib.hid hK.out.below
          have BXR := Lib.hid hK.out.res
          have s0 := hK.out.res.soft 0
          have s1 := hK.out.res.soft 1
          have s2 := hK.out.res.soft 2
          have d0 : wr.cell? ⟨w.heap.size, 0, none⟩ = some (.map none) := hK.out.res.cell 0
          have d1 : wr.cell? ⟨w.heap.size, 1, none⟩ = some (.map none) := hK.out.res.cell 1
          have d2 : wr.cell? ⟨w.heap.size, 2, none⟩ = some (.slice none 0 0) := hK.out.res.cell 2
          have c0 : wr.cell? ⟨gt, 0, none⟩ = some (.map (some gc)) := hK.out.box.cell 0
          have c1 : wr.cell? ⟨gt, 1, none⟩ = some (.map (some gr)) := hK.out.box.cell 1
          have c2' : wr.cell? ⟨gt, 2, none⟩ = some (.slice S k sc) := hK.out.box.cell 2
          have HFE : Hid (fromE zs fr = 0) := fromE_ok HAR.out HFR.out
          clear hK hlt
          go_wp2
          have BY := ((BXR.out.set 0 (.map (some gc))).set 1 (.map (some gr))).set 2 (.slice S k sc)
          have HB' := below_set (below_set (below_set HB.out (Nat.le_refl _) 0 (.map (some gc))) (Nat.le_refl _) 1 (.map (some gr))) (Nat.le_refl _) 2 (.slice S k sc)
          have HT' := HT.out.box BXR.out (w' := (((wr.setCell ⟨w.heap.size, 0, none⟩ (.map (some gc))).setCell ⟨w.heap.size, 1, none⟩ (.map (some gr))).setCell ⟨w.heap.size, 2, none⟩ (.slice S k sc))) (by simp only [size_setCell]) fun i hi => by rw [heap_setOther _ hi, heap_setOther _ hi, heap_setOther _ hi]
          generalize (((wr.setCell ⟨w.heap.size, 0, none⟩ (.map (some gc))).setCell ⟨w.heap.size, 1, none⟩ (.map (some gr))).setCell ⟨w.heap.size, 2, none⟩ (.slice S k sc)) = W at *
          have x0 : W.cell? ⟨w.heap.size, 0, none⟩ = some (.map (some gc)) := BY.cell 0
          have x1 : W.cell? ⟨w.heap.size, 1, none⟩ = some (.map (some gr)) := BY.cell 1
          have x2 : W.cell? ⟨w.heap.size, 2, none⟩ = some (.slice S k sc) := BY.cell 2
          refine bodyPost_ret (v := .tuple #[.agg #[.map (some gc), .map (some gr), .slice S k sc], .int .i64 0]) (by simp [results, Try.results32, go_sem, x0, x1, x2]) rfl ⟨HB', .inr ⟨HFE.out, gc, gr, S, k, sc, _, rfl, HGC.out, by omega, HT'⟩⟩

theorem tallyRead_any (A F : Option Addr) (n c nf cf : Nat) (zs fr : List Int) (w : World) (hn : n ≤ maxLen) (hnc : n ≤ c) (ha : Arr .u64 w w.heap.size A n zs) (hnf : nf * 8 ≤ 140737488351232) (hfr : Arr .i64 w w.heap.size F nf fr) :
    Calls Try.prog 32 #[.slice A n c, .slice F nf cf] w (ReadT zs fr w) := by
  by_cases h : arErr zs = 0
  · exact tallyRead_good A F n c nf cf zs fr w hn hnc ha hnf hfr h
  · exact tallyRead_bad A F n c nf cf zs fr w hn hnc ha h
end Go.Proofs.Ytgekghlmkfkbjaa
