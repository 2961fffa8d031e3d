/-
  Package same: renamed, and what the walk over an arena's objects tells of their new names.
-/
import Derived.Test.YtjefbekdjgmmbaaSameN
import Derived.Test.YtjefbekdjgmmbaaCarryE
namespace Go.Proofs.Ytjefbekdjgmmbaa
open Go.RowKit

set_option maxRecDepth 8000 in
set_option maxHeartbeats 2000000 in
theorem renamed_any (F : Option Addr) (nf cf gm N : Nat) (l : List Int) (f : Int → Option Int) (w : World) (hn : nf * 8 ≤ 140737488355328) (hl : Arr .i64 w w.heap.size F nf l) (hm : MapF Try.prog .i64 .i64 3 3 w gm N f) :
    Calls Try.prog 36 #[.slice F nf cf, .map (some gm)] w fun e w' => ∃ g, e = .returned (.slice (some ⟨g, 0, none⟩) nf nf) ∧ w.heap.size ≤ g ∧ Below w.heap.size w w' ∧ Whole .i64 3 w' g (l.map fun v => (f v).getD 0) := by
  have hmk := fun wx => run_make_row' (P := Try.prog) 23 3 (.int .i64 0) 8 Try.underlying23 carryI64 rfl .i64 .i64 nf (by omega) (by omega) wx
  have hW : Whole .i64 3 (w.alloc (.cells (madeCells #[Value.int .i64 0] nf) 3)) w.heap.size (List.replicate nf 0) := by
    rw [made_replicate]
    exact whole_new .i64 3 w _ (fun z hz => by rw [List.eq_of_mem_replicate hz]; rfl)
  have bm : Below w.heap.size w (w.alloc (.cells (madeCells #[Value.int .i64 0] nf) 3)) := (Below.refl _ _).alloc (Nat.le_refl _) _
  have hll := hl.1
  have hLL : (l.map fun v => (f v).getD 0).length = nf := by rw [List.length_map]; exact hll
  have hLV : ∀ k, k < nf → nth (l.map fun v => (f v).getD 0) k = (f (nth l k)).getD 0 := fun k hk => by rw [nth_get _ _ (by omega), List.getElem_map, nth_get _ _ (by omega)]
  obtain ⟨L, hL⟩ : ∃ L, (l.map fun v => (f v).getD 0) = L := ⟨_, rfl⟩
  rw [hL] at hLL hLV
  have HLL := Lib.hid hLL
  have HLV := Lib.hid hLV
  have HLN := Lib.hid hll
  have HI : Hid (WdI L nf w.heap.size w 0 (w.alloc (.cells (madeCells #[Value.int .i64 0] nf) 3))) := ⟨by rw [fillTo_zero]; exact hW, bm⟩
  have HL := Lib.hid hl
  have HM := Lib.hid hm
  rw [hL]
  clear hl hm hW bm hL hLL hLV hll
  go_enter Try.func36, Try.ntmps36
  go_wp2_with fail
  generalize (w.alloc (.cells (madeCells #[Value.int .i64 0] nf) 3)) = W1 at *
  obtain ⟨g, hg⟩ : ∃ g, w.heap.size = g := ⟨_, rfl⟩
  have HG := Lib.hid hg
  rw [hg] at HI
  rw [hg]
  clear hmk hg
  go_loopw [13] (fun i wr => ∃ k : Nat, k ≤ nf ∧ i = .int .i64 k ∧ Hid (WdI L nf g w k wr)) (fun i _ => nf - (intOf i).toNat)
  case atStart => exact ⟨0, Nat.zero_le _, rfl, HI⟩
  case round =>
    obtain ⟨k, hkn, rfl, hI⟩ := hrel
    clear HI
    by_cases hlt : k < nf
    · obtain ⟨b, off, rfl, _, hc⟩ := (HL.out.below hI.out.below (Nat.le_refl _)).2.2 (by omega)
      have c1 := hc k hlt
      have hx : (Lit.int .i64 (nth l k)).wf = true := HL.out.2.1 _ (nth_mem (by have := HLN.out; omega))
      have hM := HM.out.below hI.out.below HM.out.lt
      have hlk := hM.look placesT (x := nth l k) hx
      have hy := hM.wf placesT hx
      rw [← HLV.out k hlt] at hlk hy
      have hW2 := hI.out.row.set_ k _ hy
      rw [fillTo_set HLL.out hlt] at hW2
      have HN : Hid (WdI L nf g w (k + 1) (wr.setCell ⟨g, k, none⟩ (.int .i64 (nth L k)))) := ⟨hW2, below_set hI.out.below (by rw [HG.out]; exact Nat.le_refl _) _ _⟩
      have d0 := hI.out.row.cell (j := k) (by rw [fillTo_len HLL.out (by omega)]; exact hlt)
      have f0 := hI.out.row.frozen k
      clear hI hW2 hx hM hy hc
      generalize nth (fillTo L nf k) k = X at *
      generalize nth L k = Y at *
      generalize nth l k = Z at *
      go_wp2
      go_roundw
      case rel => exact ⟨k + 1, by omega, by go_num, HN⟩
      case measure => simp [intOf]; omega
    · obtain rfl : k = nf := by omega
      have hrow := hI.out.row
      rw [fillTo_all HLL.out] at hrow
      have HR := Lib.hid hrow
      have HB := Lib.hid hI.out.below
      clear hI hrow
      go_wp2
      go_ret
      exact ⟨g, rfl, by rw [HG.out]; exact Nat.le_refl _, HB.out, HR.out⟩

/-- The order of what is reached, of lists as long as a machine holds. -/
theorem sameOrd_any (A F : Option Addr) (n c nf cf : Nat) (zs fr : List Int) (w : World) (hn : n ≤ maxLen) (hnc : n ≤ c) (ha : Arr .u64 w w.heap.size A n zs) (hnf : nf ≤ maxLen) (hfr : Arr .i64 w w.heap.size F nf fr) :
    Calls Try.prog 33 #[.slice A n c, .slice F nf cf] w (OrderP zs fr w) := by
  have HT := Lib.hid (traverse_any A F n c nf cf zs fr w hn hnc ha hnf hfr)
  have HWF := Lib.hid ha.2.1
  clear ha hfr hn hnc hnf
  go_enter Try.func33, Try.ntmps33
  go_wp2_with fail
  refine HT.out.mono ?_
  rintro e w1 ⟨b1, ⟨h0, rfl⟩ | ⟨h0, gT, gp, m, oc, sc, nd, dc, N, OA, S, D, raws, ord, rfl, _, hbox, _, _, _, hS, hD, _, hall, hcam⟩⟩
  · have HB := Lib.hid b1
    have HZ := Lib.hid h0
    have hbz : (fromE zs fr != 0) = true := by simpa using h0
    clear b1 h0 HT
    go_wp2
    go_ret2
    exact ⟨_, _, _, rfl, HB.out, Nat.le_refl _, by rw [orderO_bad HZ.out]; exact Arr.zero⟩
  · have h256 := arena_len (fromE_zero h0).1
    have hnd : nd ≤ 256 := by
      rw [← hD.1, show ord.length = (camL zs fr).length by rw [← hcam, List.length_map]]
      exact camL_len HWF.out h0
    have HW := Lib.hid (carryWords_any _ S D m sc nd dc gT gp zs ord w1 hbox hS hD hall hnd h256)
    have HB := Lib.hid b1
    have HZ := Lib.hid h0
    have HC := Lib.hid hcam
    have HDL := Lib.hid hD.1
    clear b1 h0 HT hbox hS hD hall hcam
    go_wp2_with fail
    refine HW.out.mono ?_
    rintro e w2 ⟨g, rfl, hg, b2, hW⟩
    have HB2 := Lib.hid (bthen HB.out b2)
    have hA := hW.arr hW.lt
    rw [HC.out] at hA
    rw [show (camL zs fr).length = nd by rw [← HC.out, List.length_map]; exact HDL.out] at hA
    have HA := Lib.hid hA
    clear hg b2 hW hA HW
    go_wp2
    go_ret2
    exact ⟨_, _, _, by rw [HZ.out]; rfl, HB2.out, Nat.le_refl _, by rw [orderO_ok HZ.out]; exact HA.out⟩

/-- Places of the words in the order. -/
def plT (ord : List Int) (k : Nat) : Int → Option Int := fun x => if x ∈ ord.take k then some (plI ord x) else none
/-- New names of the objects: of -1, and of those among the first 'k' that are reached. -/
def nmT (zs ord : List Int) (k : Nat) : Int → Option Int := fun r => if r = -1 then some (-1) else if 0 ≤ r ∧ r < k ∧ atI zs r ∈ ord then some (plI ord (atI zs r)) else none
section
variable {zs fr ord : List Int} {k : Nat} {x r : Int}
theorem plT_zero : plT ord 0 = fun _ => none := by funext x; simp [plT]
theorem plT_next (hd : ord.Nodup) (h : k < ord.length) : plT ord (k + 1) = put (plT ord k) (nth ord k) k := by
  funext x
  unfold plT put
  rw [List.take_succ_eq_append_getElem h, ← nth_get _ _ h]
  by_cases e : x = nth ord k
  · subst e
    rw [if_pos (by simp), if_pos rfl, plI_at hd h]
  · rw [if_neg e]
    have : x ∈ ord.take k ++ [nth ord k] ↔ x ∈ ord.take k := by simp [e]
    simp only [this]
theorem plT_all : plT ord ord.length = fun x => if x ∈ ord then some (plI ord x) else none := by unfold plT; rw [List.take_length]
theorem nmT_zero : nmT zs ord 0 = put (fun _ => none) (-1) (-1) := by
  funext r
  unfold nmT put
  by_cases h : r = -1
  · rw [if_pos h, if_pos h]
  · rw [if_neg h, if_neg h, if_neg (by omega)]
theorem nmT_hit (h : (st zs k : Int) ∈ ord) : nmT zs ord (k + 1) = put (nmT zs ord k) k (plI ord (st zs k)) := by
  funext r
  unfold nmT put
  by_cases e : r = (k : Int)
  · subst e
    rw [if_neg (by omega), if_pos (by rw [atI_nat]; exact ⟨by omega, by omega, h⟩), if_pos rfl, atI_nat]
  · rw [if_neg e]
    have : (0 ≤ r ∧ r < (k + 1 : Nat) ∧ atI zs r ∈ ord) ↔ (0 ≤ r ∧ r < k ∧ atI zs r ∈ ord) := ⟨fun ⟨a, b, c⟩ => ⟨a, by omega, c⟩, fun ⟨a, b, c⟩ => ⟨a, by omega, c⟩⟩
    simp only [this]
theorem nmT_miss (h : (st zs k : Int) ∉ ord) : nmT zs ord (k + 1) = nmT zs ord k := by
  funext r
  unfold nmT
  by_cases e : r = (k : Int)
  · subst e
    rw [if_neg (by omega), if_neg (by rw [atI_nat]; exact fun q => h q.2.2), if_neg (by omega), if_neg (by omega)]
  · have : (0 ≤ r ∧ r < (k + 1 : Nat) ∧ atI zs r ∈ ord) ↔ (0 ≤ r ∧ r < k ∧ atI zs r ∈ ord) := ⟨fun ⟨a, b, c⟩ => ⟨a, by omega, c⟩, fun ⟨a, b, c⟩ => ⟨a, by omega, c⟩⟩
    simp only [this]
theorem nmT_ref (hi : InR zs r) (hin : r = -1 ∨ atI zs r ∈ ord) (hneg : (-1 : Int) ∉ ord) : (nmT zs ord (begins zs 0).length r).getD 0 = plI ord (atI zs r) := by
  unfold nmT
  by_cases e : r = -1
  · subst e
    rw [if_pos rfl, atI_null, plI_out hneg]; rfl
  · rcases hi with hi | ⟨h1, h2⟩
    · exact absurd hi e
    · rw [if_neg e, if_pos ⟨h1, h2, hin.resolve_left e⟩]; rfl
end
end Go.Proofs.Ytjefbekdjgmmbaa
