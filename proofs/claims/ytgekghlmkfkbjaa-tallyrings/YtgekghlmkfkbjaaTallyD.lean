/-
  Package tally: Counts, Drop, Rings.
-/
import Derived.Test.YtgekghlmkfkbjaaTallyS
import Derived.Test.YtgekghlmkfkbjaaBinI
namespace Go.Proofs.Ytgekghlmkfkbjaa
open Go.RowKit

theorem without_count {fr : List Int} {k : Nat} (hk : k < fr.length) (x : Int) : fr.count x = (withoutL fr k).count x + if x = nth fr k then 1 else 0 := by
  have h1 : fr = fr.take k ++ nth fr k :: fr.drop (k + 1) := by
    rw [nth_get _ _ hk, ← List.drop_eq_getElem_cons hk, List.take_append_drop]
  have h2 : fr.count x = (fr.take k ++ nth fr k :: fr.drop (k + 1)).count x := by rw [← h1]
  rw [h2]
  unfold withoutL
  rw [List.count_append, List.count_append, List.count_cons]
  by_cases h : x = nth fr k
  · subst h; simp; omega
  · rw [if_neg h, if_neg (by simpa using fun e => h e.symm)]
    omega
/-- A list of 'n' zeros whose first 'k' are those of 'L'. -/
def tfillTo (L : List Int) (n k : Nat) : List Int := L.take k ++ List.replicate (n - k) 0
section
variable {L : List Int} {n k : Nat}
theorem tfillTo_len (hn : L.length = n) (h : k ≤ n) : (tfillTo L n k).length = n := by unfold tfillTo; rw [List.length_append, List.length_take, List.length_replicate]; omega
theorem tfillTo_zero : tfillTo L n 0 = List.replicate n 0 := by unfold tfillTo; simp
theorem tfillTo_all (hn : L.length = n) : tfillTo L n n = L := by unfold tfillTo; rw [List.take_of_length_le (by omega)]; simp
theorem tfillTo_set (hn : L.length = n) (h : k < n) : (tfillTo L n k).set k (nth L k) = tfillTo L n (k + 1) := by
  have hk : k < L.length := by omega
  unfold tfillTo
  rw [List.set_append_right _ _ (by rw [List.length_take]; omega), List.length_take, show k - min k L.length = 0 by omega, show n - k = (n - (k + 1)) + 1 by omega, List.replicate_succ, List.set_cons_zero, List.take_succ_eq_append_getElem hk, nth_get _ _ hk, List.append_assoc]
  rfl
end

set_option maxRecDepth 8000 in
set_option maxHeartbeats 2000000 in
theorem counts_bad (A F : Option Addr) (n c nf cf : Nat) (zs fr : List Int) (w : World) (hn : n ≤ maxLen) (hnc : n ≤ c) (ha : Arr .u64 w w.heap.size A n zs) (hnf : nf * 8 ≤ 140737488351232) (hfr : Arr .i64 w w.heap.size F nf fr) (h : fromE zs fr ≠ 0) :
    Calls Try.prog 7 #[.slice A n c, .slice F nf cf] w (CountsP zs fr w) := by
  have HC := Lib.hid (tallyRead_any A F n c nf cf zs fr w hn hnc ha hnf hfr)
  unfold ReadT at HC
  unfold CountsP
  rw [countsO_bad h]
  clear ha hfr
  generalize fromE zs fr = E at *
  have hb : (E != 0) = true := by simpa using h
  have hb2 := h
  clear h
  go_enter Try.func7, Try.ntmps7
  go_wp2_with fail
  refine HC.out.mono ?_
  rintro e w1 ⟨b1, ⟨_, rfl⟩ | ⟨h1, _⟩⟩
  · unfold tlZ
    have HB := Lib.hid (b1.alloc b1.size (.cells #[.map none, .map none, .slice none 0 0] 48))
    clear b1 HC
    go_wp2
    go_ret2
    exact ⟨none, 0, 0, rfl, HB.out, Nat.le_refl _, Arr.zero⟩
  · exact absurd h1 hb2

set_option maxRecDepth 8000 in
set_option maxHeartbeats 4000000 in
theorem counts_good (A F : Option Addr) (n c nf cf : Nat) (zs fr : List Int) (w : World) (hn : n ≤ maxLen) (hnc : n ≤ c) (ha : Arr .u64 w w.heap.size A n zs) (hnf : nf * 8 ≤ 140737488351232) (hfr : Arr .i64 w w.heap.size F nf fr) (h : fromE zs fr = 0) :
    Calls Try.prog 7 #[.slice A n c, .slice F nf cf] w (CountsP zs fr w) := by
  have h256 := arena_len (fromE_zero h).1
  have hll := lives_len h256
  have hfl := hfr.1
  have HLW : Hid (∀ y ∈ livesI zs, (Lit.int .i64 y).wf = true ∧ 0 ≤ y) := fun y hy => by
    have := lives_lt hy
    exact ⟨wf_i64.2 (by omega), this.1⟩
  have HC := Lib.hid (tallyRead_any A F n c nf cf zs fr w hn hnc ha hnf hfr)
  unfold ReadT at HC
  unfold CountsP
  rw [countsO_ok h]
  have HH := Lib.hid h
  have HLEN : Hid ((fr ++ refsL zs (livesI zs)).length ≤ 2 ^ 50) := by
    show _ ≤ _
    have := refsL_len (l := livesI zs) h256
    rw [List.length_append]
    omega
  clear ha hfr
  go_enter Try.func7, Try.ntmps7
  go_wp2_with fail
  refine HC.out.mono ?_
  rintro e w1 ⟨b1, ⟨h1, _⟩ | ⟨_, gc, gr, S, q, sc, N, rfl, hgc, hN, hT⟩⟩
  · exact absurd HH.out h1
  have b2 := (Below.refl _ w1).alloc (Nat.le_refl _) (.cells #[.map (some gc), .map (some gr), .slice S q sc] 48)
  have BX := Lib.hid (Box.new w1 48 #[.map (some gc), .map (some gr), .slice S q sc])
  have HT := Lib.hid (hT.next b2).low
  have HB1 := Lib.hid (b1.trans (b2.mono b1.size))
  have hq : (livesI zs).length = q := hT.st.1
  have hs1 : w1.heap.size < (w1.alloc (.cells #[.map (some gc), .map (some gr), .slice S q sc] 48)).heap.size := by simp
  have HS1 := Lib.hid hs1
  have HSE : Hid ((w1.alloc (.cells #[.map (some gc), .map (some gr), .slice S q sc] 48)).heap.size = w1.heap.size + 1) := by show _ = _; simp
  have d2 : (w1.alloc (.cells #[.map (some gc), .map (some gr), .slice S q sc] 48)).cell? ⟨w1.heap.size, 2, none⟩ = some (.slice S q sc) := BX.out.cell 2
  have hmk := fun wx => run_make_row' (P := Try.prog) 23 3 (.int .i64 0) 8 Try.underlying23 intI_info rfl .i64 .i64 q (by omega) (by omega) wx
  clear b1 b2 hT hs1 HC
  have hW : Whole .i64 3 ((w1.alloc (.cells #[.map (some gc), .map (some gr), .slice S q sc] 48)).alloc (.cells (madeCells #[Value.int .i64 0] q) 3)) (w1.alloc (.cells #[.map (some gc), .map (some gr), .slice S q sc] 48)).heap.size (List.replicate q 0) := by
    rw [made_replicate]
    exact whole_new .i64 3 (w1.alloc (.cells #[.map (some gc), .map (some gr), .slice S q sc] 48)) _ (fun z hz => by rw [List.eq_of_mem_replicate hz]; rfl)
  have bm : Below (w1.alloc (.cells #[.map (some gc), .map (some gr), .slice S q sc] 48)).heap.size (w1.alloc (.cells #[.map (some gc), .map (some gr), .slice S q sc] 48)) ((w1.alloc (.cells #[.map (some gc), .map (some gr), .slice S q sc] 48)).alloc (.cells (madeCells #[Value.int .i64 0] q) 3)) := (Below.refl _ _).alloc (Nat.le_refl _) _
  have hCL : (countsL zs fr).length = q := by rw [countsL_len]; exact hq
  have HW := Lib.hid hW
  have HBM := Lib.hid bm
  have HCL := Lib.hid hCL
  have HQ := Lib.hid hq
  have e2 : ((w1.alloc (.cells #[.map (some gc), .map (some gr), .slice S q sc] 48)).alloc (.cells (madeCells #[Value.int .i64 0] q) 3)).cell? ⟨w1.heap.size, 2, none⟩ = some (.slice S q sc) := (bm.cell (p := ⟨w1.heap.size, 2, none⟩) HS1.out).trans d2
  clear hW bm hCL
  go_wp2_with fail
  clear e2 d2 hmk
  generalize ((w1.alloc (.cells #[.map (some gc), .map (some gr), .slice S q sc] 48)).alloc (.cells (madeCells #[Value.int .i64 0] q) 3)) = W2 at *
  generalize (w1.alloc (.cells #[.map (some gc), .map (some gr), .slice S q sc] 48)) = W1 at *
  obtain ⟨g, hg⟩ : ∃ g, w1.heap.size + 1 = g := ⟨_, rfl⟩
  rw [HSE.out, hg] at HW HBM HT HS1
  rw [hg]
  have HG : Hid (W1.heap.size = g) := HSE.out.trans hg
  clear hg
  go_loopw [27] (fun i wr => ∃ k : Nat, k ≤ q ∧ i = .int .i64 k ∧ Hid (Whole .i64 3 wr g (tfillTo (countsL zs fr) q k)) ∧ Hid (Below g W1 wr)) (fun i _ => q - (intOf i).toNat)
  case atStart => exact ⟨0, Nat.zero_le _, rfl, by rw [tfillTo_zero]; exact HW.out, HBM.out⟩
  case round =>
    obtain ⟨k, hk, rfl, HR, HB⟩ := hrel
    clear HW HBM
    have hT2 := HT.out.below HB.out (Nat.le_refl _)
    by_cases hlt : k < q
    · obtain ⟨b, off, rfl, _, hcs⟩ := hT2.st.2.2 (by omega)
      have hc := hcs k hlt
      have hmem : nth (livesI zs) k ∈ livesI zs := nth_mem (by omega)
      obtain ⟨hwf, hge⟩ := HLW.out _ hmem
      have d0 : wr.cell? ⟨w1.heap.size, 0, none⟩ = some (.map (some gc)) := (BX.out.below HB.out HS1.out).cell 0
      have hlk := hT2.cn.look countT hwf
      rw [cnIn_in hmem] at hlk
      have hcv : nth (countsL zs fr) k = ((fr ++ refsL zs (livesI zs)).count (nth (livesI zs) k) : Int) := by rw [countsL_nth (by omega), cnt_refs hge]
      rw [← hcv] at hlk
      have hle : (fr ++ refsL zs (livesI zs)).count (nth (livesI zs) k) ≤ 2 ^ 50 := Nat.le_trans List.count_le_length HLEN.out
      have hwv : (Lit.int .i64 (nth (countsL zs fr) k)).wf = true := by rw [hcv]; exact wf_i64.2 (by omega)
      have hW2 := HR.out.set_ k (nth (countsL zs fr) k) hwv
      rw [tfillTo_set HCL.out hlt] at hW2
      have HN := Lib.hid hW2
      have HB2 := Lib.hid (below_set HB.out (Nat.le_refl _) k (.int .i64 (nth (countsL zs fr) k)))
      have h0 := HR.out.cell (j := k) (by rw [tfillTo_len HCL.out (by omega)]; exact hlt)
      have f0 := HR.out.frozen k
      clear hcs hmem hcv hle hwv hW2 hT2 HR HB hwf hge
      generalize nth (tfillTo (countsL zs fr) q k) k = X0 at *
      generalize nth (countsL zs fr) k = C at *
      generalize nth (livesI zs) k = X at *
      go_wp2
      go_roundw
      case rel => exact ⟨k + 1, by omega, by go_num, HN.out, HB2.out⟩
      case measure => simp [intOf]; omega
    · obtain rfl : k = q := by omega
      have hR := HR.out
      rw [tfillTo_all HCL.out] at hR
      have hA := hR.arr (B := wr.heap.size) hR.lt
      rw [HCL.out] at hA
      have HA := Lib.hid hA
      have HB2 := Lib.hid (HB1.out.trans (HB.out.mono (by have := HG.out; have := HB1.out.size; omega)))
      clear hR hA HR HB hT2
      go_wp2
      go_ret2
      exact ⟨_, _, _, by rw [HH.out]; rfl, HB2.out, Nat.le_refl _, HA.out⟩
theorem counts_any : CountsC := fun A F n c nf cf zs fr w hn hnc ha hnf _ hfr => by
  by_cases h : fromE zs fr = 0
  · exact counts_good A F n c nf cf zs fr w hn hnc ha hnf hfr h
  · exact counts_bad A F n c nf cf zs fr w hn hnc ha hnf hfr h

set_option maxRecDepth 8000 in
set_option maxHeartbeats 2000000 in
theorem drop_bad (A F : Option Addr) (n c nf cf : Nat) (k : Int) (zs fr : List Int) (w : World) (hn : n ≤ maxLen) (hnc : n ≤ c) (ha : Arr .u64 w w.heap.size A n zs) (hnf : nf * 8 ≤ 140737488351232) (hfr : Arr .i64 w w.heap.size F nf fr) (h : fromE zs fr ≠ 0) :
    Calls Try.prog 8 #[.slice A n c, .slice F nf cf, .int .i64 k] w (DropP zs fr k w) := by
  have HC := Lib.hid (tallyRead_any A F n c nf cf zs fr w hn hnc ha hnf hfr)
  unfold ReadT at HC
  unfold DropP
  rw [dropO_bad (by rw [dropE_from h]; exact h), dropE_from h]
  clear ha hfr
  generalize fromE zs fr = E at *
  have hb : (E != 0) = true := by simpa using h
  have hb2 := h
  clear h
  go_enter Try.func8, Try.ntmps8
  go_wp2_with fail
  refine HC.out.mono ?_
  rintro e w1 ⟨b1, ⟨_, rfl⟩ | ⟨h1, _⟩⟩
  · unfold tlZ
    have HB := Lib.hid (b1.alloc b1.size (.cells #[.map none, .map none, .slice none 0 0] 48))
    clear b1 HC
    go_wp2
    go_ret2
    exact ⟨none, 0, 0, rfl, HB.out, Nat.le_refl _, Arr.zero⟩
  · exact absurd h1 hb2

set_option maxRecDepth 8000 in
set_option maxHeartbeats 4000000 in
theorem drop_range (A F : Option Addr) (n c nf cf : Nat) (k : Int) (zs fr : List Int) (w : World) (hn : n ≤ maxLen) (hnc : n ≤ c) (ha : Arr .u64 w w.heap.size A n zs) (hnf : nf * 8 ≤ 140737488351232) (hfr : Arr .i64 w w.heap.size F nf fr) (h : fromE zs fr = 0) (hk : k < 0 ∨ (fr.length : Int) ≤ k) :
    Calls Try.prog 8 #[.slice A n c, .slice F nf cf, .int .i64 k] w (DropP zs fr k w) := by
  have hfl := hfr.1
  have HC := Lib.hid (tallyRead_any A F n c nf cf zs fr w hn hnc ha hnf hfr)
  unfold ReadT at HC
  unfold DropP
  have he := dropE_range h hk
  rw [dropO_bad (by rw [he]; decide), he]
  have HH := Lib.hid h
  rw [hfl] at hk
  clear ha hfr he
  go_enter Try.func8, Try.ntmps8
  go_wp2_with fail
  refine HC.out.mono ?_
  rintro e w1 ⟨b1, ⟨h1, _⟩ | ⟨_, gc, gr, S, q, sc, N, rfl, hgc, hN, hT⟩⟩
  · exact absurd HH.out h1
  have HB := Lib.hid (b1.alloc b1.size (.cells #[.map (some gc), .map (some gr), .slice S q sc] 48))
  clear b1 hT HC
  by_cases hk0 : k < 0
  · go_wp2
    go_ret2
    exact ⟨none, 0, 0, rfl, HB.out, Nat.le_refl _, Arr.zero⟩
  · have hk1 : (nf : Int) ≤ k := by omega
    go_wp2
    go_ret2
    exact ⟨none, 0, 0, rfl, HB.out, Nat.le_refl _, Arr.zero⟩

set_option maxRecDepth 8000 in
set_option maxHeartbeats 4000000 in
theorem drop_good (A F : Option Addr) (n c nf cf : Nat) (k : Int) (zs fr : List Int) (w : World) (hn : n ≤ maxLen) (hnc : n ≤ c) (ha : Arr .u64 w w.heap.size A n zs) (hnf : nf * 8 ≤ 140737488351232) (hfr : Arr .i64 w w.heap.size F nf fr) (h : fromE zs fr = 0) (hk : ¬ (k < 0 ∨ (fr.length : Int) ≤ k)) :
    Calls Try.prog 8 #[.slice A n c, .slice F nf cf, .int .i64 k] w (DropP zs fr k w) := by
  have hfl := hfr.1
  obtain ⟨j, rfl⟩ : ∃ j : Nat, k = j := ⟨k.toNat, by omega⟩
  have hj : j < nf := by omega
  have har := (fromE_zero h).1
  have h256 := arena_len har
  have hll := lives_len h256
  have hmem : nth fr j ∈ livesI zs := (fromE_zero h).2 _ (nth_mem (by omega))
  have hwf : (Lit.int .i64 (nth fr j)).wf = true := by
    have := lives_lt hmem
    exact wf_i64.2 (by omega)
  have HC := Lib.hid (tallyRead_any A F n c nf cf zs fr w hn hnc ha hnf hfr)
  unfold ReadT at HC
  unfold DropP
  have he := dropE_ok h hk
  rw [dropO_ok he, he, Int.toNat_natCast]
  have HH := Lib.hid h
  have HF := Lib.hid hfr
  have HZ := Lib.hid ha.2.1
  have HAR := Lib.hid har
  have HMEM := Lib.hid hmem
  have HLEN : Hid ((fr ++ refsL zs (livesI zs)).length ≤ 2 ^ 48) := by
    show _ ≤ _
    have := refsL_len (l := livesI zs) h256
    rw [List.length_append]
    omega
  clear ha hfr he har hmem hk
  go_enter Try.func8, Try.ntmps8
  go_wp2_with fail
  refine HC.out.mono ?_
  rintro e w1 ⟨b1, ⟨h1, _⟩ | ⟨_, gc, gr, S, q, sc, N, rfl, hgc, hN, hT⟩⟩
  · exact absurd HH.out h1
  have b2 := (Below.refl _ w1).alloc (Nat.le_refl _) (.cells #[.map (some gc), .map (some gr), .slice S q sc] 48)
  have BX := Lib.hid (Box.new w1 48 #[.map (some gc), .map (some gr), .slice S q sc])
  have HT := Lib.hid (hT.next b2)
  have HGL : Hid (gc < w1.heap.size) := hT.cn.lt
  have HB1 := Lib.hid (b1.trans (b2.mono b1.size))
  clear b1 b2 hT HC
  have hj0 : ¬ (j : Int) < 0 := by omega
  have hj1 : ¬ (nf : Int) ≤ j := by omega
  have d0 : (w1.alloc (.cells #[.map (some gc), .map (some gr), .slice S q sc] 48)).cell? ⟨w1.heap.size, 0, none⟩ = some (.map (some gc)) := BX.out.cell 0
  obtain ⟨b, off, rfl, _, hcs⟩ := (HF.out.below HB1.out (Nat.le_refl _)).2.2 (by omega)
  have hc := hcs j hj
  have hlk := (HT.out.cn.drewN 1).look countT hwf
  rw [cnIn_in HMEM.out] at hlk
  have hpos : 1 ≤ (fr ++ refsL zs (livesI zs)).count (nth fr j) := by
    rw [List.count_append]
    have : 0 < fr.count (nth fr j) := List.count_pos_iff.2 (nth_mem (by omega))
    omega
  have hle : (fr ++ refsL zs (livesI zs)).count (nth fr j) ≤ 2 ^ 48 := Nat.le_trans List.count_le_length HLEN.out
  have HWC : Hid (∀ z ∈ livesI zs, (if z = nth fr j then ((fr ++ refsL zs (livesI zs)).count (nth fr j) : Int) - 1 else ((fr ++ refsL zs (livesI zs)).count z : Int)) = ((withoutL fr j ++ refsL zs (livesI zs)).count z : Int)) := fun z _ => by
    have := without_count (fr := fr) (k := j) (by omega) z
    rw [List.count_append, List.count_append, List.count_append]
    by_cases hz : z = nth fr j
    · rw [if_pos hz] at this ⊢
      rw [← hz]
      omega
    · rw [if_neg hz] at this ⊢
      omega
  obtain ⟨C, hC⟩ : ∃ C, (fr ++ refsL zs (livesI zs)).count (nth fr j) = C := ⟨_, rfl⟩
  rw [hC] at hpos hle hlk HWC
  have e1 : IntKind.i64.wrap ((C : Int) - 1) = C - 1 := IntWalk.i64_in _ (by omega)
  have hw2 : (Lit.int .i64 ((C : Int) - 1)).wf = true := wf_i64.2 (by omega)
  have HCN := Lib.hid HT.out.cn
  obtain ⟨l0, hl0⟩ : ∃ l, fr ++ refsL zs (livesI zs) = l := ⟨_, rfl⟩
  rw [hl0] at HCN HT HWC
  clear hcs hC hl0
  obtain ⟨X, hX⟩ : ∃ X, nth fr j = X := ⟨_, rfl⟩
  rw [hX] at hc hlk HWC HMEM hwf
  clear hX
  go_wp2_with fail
  generalize (w1.alloc (.cells #[.map (some gc), .map (some gr), .slice S q sc] 48)) = W1 at *
  have hlk' : Sem.run Try.prog (Instr.lookup 45 (.map (some gc)) (.int .i64 X) false) W1.drew = .ok (.int .i64 (C : Int)) W1.drew := hlk
  clear hlk
  go_still_tail 8, (by kernel_rfl)
  change wpList _ _ _ _ _ (W1.drewN 1)
  refine wpList_store_map countT _ rfl _ _ _ rfl rfl rfl rfl (HCN.out.drewN 1) (by unfold maxLen; omega) hwf hw2 ?_
  intro w' hm hg
  rw [cnIn_put HMEM.out] at hm
  have HG2 : Hid (W1.grownBy w' (some gc)) := ⟨hg.os, hg.tape, hg.output, hg.size, hg.block⟩
  have HT2 := Lib.hid (HT.out.only HG2.out hm)
  have BX2 := Lib.hid (BX.out.grown HG2.out (by have := HGL.out; omega))
  have HB2 := Lib.hid (HB1.out.trans (grown_below HG2.out hgc HB1.out.size))
  have HR := Lib.hid (release_any gc gr (N + 1) q sc w.heap.size S zs (withoutL fr j) _ w' hgc HB2.out.size (by omega) HZ.out HAR.out HT2.out HWC.out)
  have x0 : w'.cell? ⟨w1.heap.size, 0, none⟩ = some (.map (some gc)) := BX2.out.cell 0
  have x1 : w'.cell? ⟨w1.heap.size, 1, none⟩ = some (.map (some gr)) := BX2.out.cell 1
  have x2 : w'.cell? ⟨w1.heap.size, 2, none⟩ = some (.slice S q sc) := BX2.out.cell 2
  clear hm hg d0 hc hlk' HCN HT HWC HG2 HT2
  go_wp2_with fail
  refine HR.out.mono ?_
  rintro e w5 ⟨A5, c5, rfl, b5, hc5, hA5⟩
  have HB5 := Lib.hid (HB2.out.trans b5)
  have HA5 := Lib.hid hA5
  obtain ⟨ln, hln⟩ : ∃ ln, (goneL zs (withoutL fr j)).length = ln := ⟨_, rfl⟩
  rw [hln] at HA5 hc5 ⊢
  clear b5 hA5 hln HR
  go_wp2
  go_ret2
  exact ⟨A5, ln, c5, rfl, HB5.out, hc5, HA5.out⟩
theorem drop_any : DropC := fun A F n c nf cf k zs fr w hn hnc ha hnf _ hfr _ => by
  by_cases h : fromE zs fr = 0
  · by_cases hk : k < 0 ∨ (fr.length : Int) ≤ k
    · exact drop_range A F n c nf cf k zs fr w hn hnc ha hnf hfr h hk
    · exact drop_good A F n c nf cf k zs fr w hn hnc ha hnf hfr h hk
  · exact drop_bad A F n c nf cf k zs fr w hn hnc ha hnf hfr h

set_option maxRecDepth 8000 in
set_option maxHeartbeats 2000000 in
theorem rings_bad (A F : Option Addr) (n c nf cf : Nat) (zs fr : List Int) (w : World) (hn : n ≤ maxLen) (hnc : n ≤ c) (ha : Arr .u64 w w.heap.size A n zs) (hnf : nf * 8 ≤ 140737488351232) (hfr : Arr .i64 w w.heap.size F nf fr) (h : fromE zs fr ≠ 0) :
    Calls Try.prog 9 #[.slice A n c, .slice F nf cf] w (RingsP zs fr w) := by
  have HC := Lib.hid (tallyRead_any A F n c nf cf zs fr w hn hnc ha hnf hfr)
  unfold ReadT at HC
  unfold RingsP
  rw [ringsO_bad h]
  clear ha hfr
  generalize fromE zs fr = E at *
  have hb : (E != 0) = true := by simpa using h
  have hb2 := h
  clear h
  go_enter Try.func9, Try.ntmps9
  go_wp2_with fail
  refine HC.out.mono ?_
  rintro e w1 ⟨b1, ⟨_, rfl⟩ | ⟨h1, _⟩⟩
  · unfold tlZ
    have HB := Lib.hid (b1.alloc b1.size (.cells #[.map none, .map none, .slice none 0 0] 48))
    clear b1 HC
    go_wp2
    go_ret2
    exact ⟨none, 0, 0, rfl, HB.out, Nat.le_refl _, Arr.zero⟩
  · exact absurd h1 hb2

set_option maxRecDepth 8000 in
set_option maxHeartbeats 4000000 in
theorem rings_good (A F : Option Addr) (n c nf cf : Nat) (zs fr : List Int) (w : World) (hn : n ≤ maxLen) (hnc : n ≤ c) (ha : Arr .u64 w w.heap.size A n zs) (hnf : nf * 8 ≤ 140737488351232) (hfr : Arr .i64 w w.heap.size F nf fr) (h : fromE zs fr = 0) :
    Calls Try.prog 9 #[.slice A n c, .slice F nf cf] w (RingsP zs fr w) := by
  have h256 := arena_len (fromE_zero h).1
  have hll := lives_len h256
  have HLW : Hid (∀ y ∈ livesI zs, (Lit.int .i64 y).wf = true ∧ 0 ≤ y) := fun y hy => by
    have := lives_lt hy
    exact ⟨wf_i64.2 (by omega), this.1⟩
  have HC := Lib.hid (tallyRead_any A F n c nf cf zs fr w hn hnc ha hnf hfr)
  unfold ReadT at HC
  unfold RingsP
  rw [ringsO_ok h]
  have HH := Lib.hid h
  have hnf2 : nf ≤ maxLen := by unfold maxLen; omega
  have HRE := Lib.hid fun w2 (hb : Below w.heap.size w w2) => Reach_any A F n c nf cf zs fr w2 hn hnc ((ha.below hb (Nat.le_refl _)).more hb.size) hnf2 ((hfr.below hb (Nat.le_refl _)).more hb.size)
  have hrl : (reachL zs fr).length ≤ 256 := Nat.le_trans (sub_length (reachL_rise.imp fun h => by omega) fun x hx => reachL_lives x hx) hll
  unfold ReachP at HRE
  rw [h] at HRE ⊢
  clear ha hfr h
  go_enter Try.func9, Try.ntmps9
  go_wp2_with fail
  refine HC.out.mono ?_
  rintro e w1 ⟨b1, ⟨h1, _⟩ | ⟨_, gc, gr, S, q, sc, N, rfl, hgc, hN, hT⟩⟩
  · exact absurd HH.out h1
  have b2 := (Below.refl _ w1).alloc (Nat.le_refl _) (.cells #[.map (some gc), .map (some gr), .slice S q sc] 48)
  have BX := Lib.hid (Box.new w1 48 #[.map (some gc), .map (some gr), .slice S q sc])
  have HT := Lib.hid (hT.next b2)
  have HB1 := Lib.hid (b1.trans (b2.mono b1.size))
  have HR := Lib.hid (HRE.out _ HB1.out)
  have hq : (livesI zs).length = q := hT.st.1
  clear b1 b2 hT HC HRE
  go_wp2_with fail
  refine HR.out.mono ?_
  rintro e w2 ⟨A7, k7, c7, rfl, b7, ⟨h1, _⟩ | ⟨_, hk7, hA7⟩⟩
  · exact absurd rfl h1
  have HT2 := Lib.hid (HT.out.next b7).low
  have BX2 := Lib.hid (BX.out.below b7 BX.out.lt)
  have HB2 := Lib.hid (HB1.out.trans (b7.mono HB1.out.size))
  have HA7 := Lib.hid hA7
  have d2 : w2.cell? ⟨w1.heap.size, 2, none⟩ = some (.slice S q sc) := BX2.out.cell 2
  rw [← hk7] at hrl
  clear b7 hk7 hA7 HT BX HB1 HR
  go_wp2_with fail
  clear d2
  go_loopw [9, 35] (fun v i wr => ∃ k : Nat, k ≤ q ∧ i = .int .i64 k ∧ Hid (Own .i64 3 wr w2.heap.size v (((livesI zs).take k).filter fun x => decide (x ∉ reachL zs fr ∧ cntO zs fr (livesI zs) x ≠ 0))) ∧ Hid (Below w2.heap.size w2 wr)) (fun _ i _ => q - (intOf i).toNat)
  case atStart => exact ⟨0, Nat.zero_le _, rfl, Own.nil, Below.refl _ _⟩
  case round =>
    obtain ⟨k, hk, rfl, HOW, HB⟩ := hrel
    have hT := HT2.out.below HB.out (Nat.le_refl _)
    by_cases hlt : k < q
    · obtain ⟨b, off, rfl, _, hcs⟩ := hT.st.2.2 (by omega)
      have hc := hcs k hlt
      have hmem : nth (livesI zs) k ∈ livesI zs := nth_mem (by omega)
      obtain ⟨hwf, hge⟩ := HLW.out _ hmem
      have d0 : wr.cell? ⟨w1.heap.size, 0, none⟩ = some (.map (some gc)) := (BX2.out.below HB.out BX2.out.lt).cell 0
      have hlk := hT.cn.look countT hwf
      rw [cnIn_in hmem, ← cnt_refs hge] at hlk
      have HBN := Lib.hid (binI_any A7 k7 c7 w2.heap.size (reachL zs fr) (nth (livesI zs) k) wr (by unfold maxLen; omega) (HA7.out.below HB.out (Nat.le_refl _)) reachL_rise)
      unfold BinP at HBN
      have HTK : Hid ((((livesI zs).take (k + 1)).filter fun x => decide (x ∉ reachL zs fr ∧ cntO zs fr (livesI zs) x ≠ 0)) = (((livesI zs).take k).filter fun x => decide (x ∉ reachL zs fr ∧ cntO zs fr (livesI zs) x ≠ 0)) ++ (if nth (livesI zs) k ∉ reachL zs fr ∧ cntO zs fr (livesI zs) (nth (livesI zs) k) ≠ 0 then [nth (livesI zs) k] else [])) := by
        show _ = _
        rw [ttake_next (by omega), List.filter_append]
        congr 1
        rw [List.filter_cons, List.filter_nil]
        by_cases h0 : nth (livesI zs) k ∉ reachL zs fr ∧ cntO zs fr (livesI zs) (nth (livesI zs) k) ≠ 0 <;> simp [h0]
      have hfl : (((livesI zs).take k).filter fun x => decide (x ∉ reachL zs fr ∧ cntO zs fr (livesI zs) x ≠ 0)).length ≤ 256 := Nat.le_trans (List.length_filter_le _ _) (by rw [List.length_take]; omega)
      have hwfI := Lib.hid hwf
      clear hcs hmem hT hwf hge
      obtain ⟨C, hC⟩ : ∃ C, cntO zs fr (livesI zs) (nth (livesI zs) k) = C := ⟨_, rfl⟩
      rw [hC] at hlk HTK
      by_cases hin : nth (livesI zs) k ∈ reachL zs fr
      · rw [show decide (nth (livesI zs) k ∈ reachL zs fr) = true by simpa using hin] at HBN
        have hT2 := HTK.out
        rw [if_neg (fun h => h.1 hin), List.append_nil] at hT2
        rw [← hT2] at HOW
        clear hT2 HTK hin hC
        generalize nth (livesI zs) k = X at *
        go_wp2_with fail
        refine HBN.out.mono ?_
        rintro e w8 ⟨p, rfl, rfl, _⟩
        clear HBN
        go_wp2
        go_roundw
        case rel => exact ⟨k + 1, by omega, by go_num, HOW.out, HB.out⟩
        case measure => simp [intOf]; omega
      · rw [show decide (nth (livesI zs) k ∈ reachL zs fr) = false by simpa using hin] at HBN
        by_cases h0 : C = 0
        · have hT2 := HTK.out
          rw [if_neg (fun h => h.2 h0), List.append_nil] at hT2
          rw [← hT2] at HOW
          subst h0
          clear hT2 HTK hin hC
          generalize nth (livesI zs) k = X at *
          go_wp2_with fail
          refine HBN.out.mono ?_
          rintro e w8 ⟨p, rfl, rfl, _⟩
          clear HBN
          go_wp2
          go_roundw
          case rel => exact ⟨k + 1, by omega, by go_num, HOW.out, HB.out⟩
          case measure => simp [intOf]; omega
        · have hT2 := HTK.out
          rw [if_pos ⟨hin, h0⟩] at hT2
          obtain ⟨v', w5, hrun, hO', hB'⟩ := HOW.out.push (P := Try.prog) (t := 23) (ty := 23) Try.underlying23 intI_info (by omega) (x := nth (livesI zs) k) hwfI.out (by omega) HB.out.size
          rw [← hT2] at hO'
          have HRN := Lib.hid hrun
          have HOW2 := Lib.hid hO'
          have HO3 := Lib.hid (HB.out.trans hB')
          have h1 : (0 : Int) < (C : Int) := by omega
          clear hrun hO' hB' hT2 HTK HOW HB h0 hwfI hfl hin hC
          generalize nth (livesI zs) k = X at *
          go_wp2_with fail
          refine HBN.out.mono ?_
          rintro e w8 ⟨p, rfl, rfl, _⟩
          clear HBN
          go_wp2_with (at_builtin; refine wpList_append_run rfl (.tmp 54) (.tmp 56) 23 rfl rfl rfl HRN.out ?_)
          go_roundw
          case rel => exact ⟨k + 1, by omega, by go_num, HOW2.out, HO3.out⟩
          case measure => simp [intOf]; omega
    · obtain rfl : k = q := by omega
      rw [List.take_of_length_le (by omega)] at HOW
      have hO := HOW.out
      rw [show (List.filter (fun x => decide (x ∉ reachL zs fr ∧ cntO zs fr (livesI zs) x ≠ 0)) (livesI zs)) = ringsL zs fr from rfl] at hO
      obtain ⟨A5, c5, rfl, hc5, hA5⟩ := hO.arr
      have HA5 := Lib.hid hA5
      have HB5 := Lib.hid (HB2.out.trans (HB.out.mono HB2.out.size))
      obtain ⟨ln, hln⟩ : ∃ ln, (ringsL zs fr).length = ln := ⟨_, rfl⟩
      rw [hln] at HA5 hc5 ⊢
      clear hO hA5 HOW HB hT hln
      go_wp2
      go_ret2
      exact ⟨A5, ln, c5, rfl, HB5.out, hc5, HA5.out⟩
theorem rings_any : RingsC := fun A F n c nf cf zs fr w hn hnc ha hnf _ hfr => by
  by_cases h : fromE zs fr = 0
  · exact rings_good A F n c nf cf zs fr w hn hnc ha hnf hfr h
  · exact rings_bad A F n c nf cf zs fr w hn hnc ha hnf hfr h
end Go.Proofs.Ytgekghlmkfkbjaa
