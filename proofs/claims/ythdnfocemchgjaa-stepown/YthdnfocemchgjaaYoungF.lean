/-
  slices.Grow, slices.Concat and slices.Sort at []int, of a slice known up to its capacity; clearing a part of a row.
-/
import Derived.Test.YthdnfocemchgjaaIntCat
import Derived.Test.YthdnfocemchgjaaSortI
import Derived.Test.YthdnfocemchgjaaOwnF
namespace Go.Proofs.Ythdnfocemchgjaa
open Go.RowKit

theorem run_clear_rowY {P : Program} (w : World) (sT ty elem : TypeId) (g o n c : Nat) (cur : List Value) (t : TypeId) (z : Value) (cs : List Value) (hn : 0 < n)
    (hu : P.underlying sT = some (.slice elem)) (hz : ∀ w, (zeroValue elem).run P w = .ok z w) (hcs : (Builtin.zeroCells z.cells n).toList = cs) (hg : w.heap[g]? = some (.cells cur.toArray t (0, 0))) (hfit : o + cs.length ≤ cur.length) (h1 : ∀ v ∈ cs, v.oneCell' = true) :
    Sem.run P (Builtin.clear_ #[sT] ty #[.slice (some ⟨g, o, none⟩) n c]) w = .ok (.tuple #[]) (w.setRow g (splice cur o cs).toArray) := by
  have hst := run_storeCells_at P g o t cs 0 cur.toArray w hg (by simpa using hfit) h1
  obtain ⟨m, rfl⟩ : ∃ m, n = m + 1 := ⟨n - 1, by omega⟩
  simp [Builtin.clear_, run_underlying hu, hz, hcs, hst, splice]
/-- A part of a row of words is cleared. -/
theorem clear_whole {k : IntKind} {P : Program} {t sT ty elem : TypeId} {w : World} {g o n c : Nat} {xs : List Int} (h : Whole k t w g xs) (hu : P.underlying sT = some (.slice elem)) (hz : ∀ w, (zeroValue elem).run P w = .ok (.int k 0) w) (hn : 0 < n) (hfit : o + n ≤ xs.length) :
    ∃ w', Sem.run P (Builtin.clear_ #[sT] ty #[.slice (some ⟨g, o, none⟩) n c]) w = .ok (.tuple #[]) w' ∧ Whole k t w' g (splice xs o (List.replicate n 0)) ∧ Below g w w' ∧ w'.heap.size = w.heap.size := by
  have hz0 : (Lit.int k 0).wf = true := by cases k <;> decide
  have hr := run_clear_rowY (P := P) w sT ty elem g o n c (xs.map (Value.int k)) t (.int k 0) ((List.replicate n (0 : Int)).map (Value.int k)) hn hu hz (by rw [zeros_ints]) h.1 (by simp; omega) (fun v hv => by obtain ⟨z, _, rfl⟩ := List.mem_map.1 hv; rfl)
  have hcs : splice (xs.map (Value.int k)) o ((List.replicate n (0 : Int)).map (Value.int k)) = (splice xs o (List.replicate n 0)).map (Value.int k) := by
    unfold splice
    simp
  rw [hcs] at hr
  refine ⟨_, hr, h.setRow fun y hy => ?_, below_setRow (Below.refl _ w) (Nat.le_refl _) _, by simp [World.setRow]⟩
  unfold splice at hy
  rcases List.mem_append.1 hy with h1 | h1
  · exact h.2 y (List.mem_of_mem_take h1)
  · rcases List.mem_append.1 h1 with h1 | h1
    · rw [List.eq_of_mem_replicate h1]; exact hz0
    · exact h.2 y (List.mem_of_mem_drop h1)

set_option maxRecDepth 8000 in
set_option maxHeartbeats 1000000 in
theorem growIntsF (k : Nat) (w : World) (hk : k * 8 ≤ 281474976710656) :
    Calls Try.prog 54 #[.slice none 0 0, .int .i64 k] w fun e w' => ∃ A cp, e = .returned (.slice A 0 cp) ∧ k ≤ cp ∧ OwnF .i64 3 w' w.heap.size (.slice A 0 cp) [] ∧ Below w.heap.size w w' := by
  rcases Nat.eq_zero_or_pos k with h0 | h0
  · subst h0
    go_enter Try.func54, Try.ntmps54
    go_wp2
    go_ret
    exact ⟨none, 0, rfl, Nat.le_refl _, OwnF.nil, Below.refl _ _⟩
  · obtain ⟨i, hi, hz, hs, hby⟩ := info_parts intI_info
    have hrun := Lib.run_append_nil_zeros (P := Try.prog) w 23 3 23 3 i _ .i64 .i64 Try.underlying23 Try.underlying3 hi hz k h0 (by rw [hs]; omega) (by omega) (by rw [hby]; omega)
    have hge := grownCap_ge w k 0 3
    have hle := grownCap_le_maxLen w k 0 3 (by unfold maxLen; omega)
    obtain ⟨cp, hcp⟩ : ∃ cp, grownCap w k 0 3 = cp := ⟨_, rfl⟩
    rw [hcp] at hrun hge hle
    have hcs : (Builtin.zeroCells (Value.int .i64 0).cells k ++ Builtin.zeroCells (Value.int .i64 0).cells (cp - k)) = ((List.replicate cp (0 : Int)).map (Value.int .i64)).toArray := by
      rw [zeros_ints, zeros_ints]
      apply Array.ext'
      simp
      omega
    rw [hcs] at hrun
    have hW : Whole .i64 3 (w.drew.alloc (.cells ((List.replicate cp (0 : Int)).map (Value.int .i64)).toArray 3)) w.heap.size (List.replicate cp 0) := whole_at .i64 3 (List.replicate cp 0) (fun z hz => by rw [List.eq_of_mem_replicate hz]; decide) rfl
    have hO : OwnF .i64 3 (w.drew.alloc (.cells ((List.replicate cp (0 : Int)).map (Value.int .i64)).toArray 3)) w.heap.size (.slice (some ⟨w.heap.size, 0, none⟩) 0 cp) [] := OwnF.of_whole hW List.length_replicate hle (Nat.le_refl _)
    have HR := Lib.hid hrun
    have HO := Lib.hid hO
    have HB : Hid (Below w.heap.size w (w.drew.alloc (.cells ((List.replicate cp (0 : Int)).map (Value.int .i64)).toArray 3))) := Lib.hid ((below_drewN (Below.refl _ w) 1).alloc (Nat.le_refl _) _)
    have HGE := Lib.hid hge
    have hcp0 : ¬ cp = 0 := by omega
    unfold maxLen at *
    clear hrun hO hle hcs hcp hi hz hs hby hW
    have k1 : ¬ ((k : Int) < 0) := by omega
    have k2 : (0 : Int) < k := by omega
    generalize (w.drew.alloc (.cells ((List.replicate cp (0 : Int)).map (Value.int .i64)).toArray 3)) = W9 at *
    go_enter Try.func54, Try.ntmps54
    go_wp2_with (at_builtin; refine wpList_append_runI rfl (.tmp 20) (.tmp 21) 23 3 rfl rfl rfl HR.out ?_)
    go_ret
    exact ⟨_, cp, rfl, HGE.out, HO.out, HB.out⟩

set_option maxRecDepth 8000 in
set_option maxHeartbeats 1000000 in
/-- slices.Concat of two slices. -/
theorem concat2F (A1 A2 : Option Addr) (n1 c1 n2 c2 g : Nat) (xs ys : List Int) (w : World) (hT : n1 + n2 ≤ 1073741824) (hg : g < w.heap.size) (h1 : Arr .i64 w w.heap.size A1 n1 xs) (h2 : Arr .i64 w w.heap.size A2 n2 ys)
    (d0 : w.cell? ⟨g, 0, none⟩ = some (.slice A1 n1 c1)) (d1 : w.cell? ⟨g, 1, none⟩ = some (.slice A2 n2 c2)) :
    Calls Try.prog 20 #[.slice (some ⟨g, 0, none⟩) 2 2] w fun e w' => ∃ v, e = .returned v ∧ OwnF .i64 3 w' w.heap.size v (xs ++ ys) ∧ Below w.heap.size w w' := by
  have HA1 := Lib.hid h1
  have HA2 := Lib.hid h2
  have HG := Lib.hid hg
  have l1 := h1.1
  have l2 := h2.1
  have HD0 := Lib.hid d0
  have HD1 := Lib.hid d1
  clear h1 h2 hg d0 d1
  go_enter Try.func20, Try.ntmps20
  go_wp2_with fail
  go_loopw [3, 11] (fun s i wr => w = wr ∧ ((i = .int .i64 0 ∧ s = .int .i64 0) ∨ (i = .int .i64 1 ∧ s = .int .i64 n1) ∨ (i = .int .i64 2 ∧ s = .int .i64 ((n1 + n2 : Nat) : Int)))) (fun _ i _ => 2 - (intOf i).toNat)
  case atStart => exact ⟨rfl, .inl ⟨rfl, rfl⟩⟩
  case round =>
    obtain ⟨rfl, ⟨rfl, rfl⟩ | ⟨rfl, rfl⟩ | ⟨rfl, rfl⟩⟩ := hrel
    · have d0 := HD0.out
      go_wp2
      go_roundw
      case rel => exact ⟨by trivial, .inr (.inl ⟨by go_num, by go_num⟩)⟩
      case measure => simp [intOf]
    · have d1 := HD1.out
      have q1 : ¬ ((n1 : Int) + (n2 : Int) < 0) := by omega
      go_wp2
      go_roundw
      case rel => exact ⟨by trivial, .inr (.inr ⟨by go_num, by go_num⟩)⟩
      case measure => simp [intOf]
    · have HGR := Lib.hid (growIntsF (n1 + n2) w (by omega))
      obtain ⟨N, hN⟩ : ∃ N, n1 + n2 = N := ⟨_, rfl⟩
      rw [hN] at HGR ⊢
      have HNN := Lib.hid hN
      clear hN
      go_wp2_with fail
      refine HGR.out.mono ?_
      rintro e w1 ⟨V, cp, rfl, hcp, hO, hB⟩
      have HO := Lib.hid hO
      have HB1 := Lib.hid hB
      clear hO hB hcp HGR
      go_wp2_with fail
      go_loopw [6, 27] (fun v i wr => Hid (Below w.heap.size w wr) ∧ ∃ j : Nat, j ≤ 2 ∧ i = .int .i64 j ∧ Hid (OwnF .i64 3 wr w.heap.size v (cat2 xs ys j))) (fun _ i _ => 2 - (intOf i).toNat)
      case atStart => exact ⟨HB1, 0, by omega, rfl, HO⟩
      case round =>
        obtain ⟨hBw, j, hj, rfl, hOw⟩ := hrel
        clear HO HB1
        have e0 := (hBw.out.cell (p := ⟨g, 0, none⟩) HG.out).trans HD0.out
        have e1 := (hBw.out.cell (p := ⟨g, 1, none⟩) HG.out).trans HD1.out
        rcases (by omega : j = 0 ∨ j = 1 ∨ j = 2) with rfl | rfl | rfl
        · obtain ⟨v4, w4, hrun, hO', hG'⟩ := hOw.out.catF (P := Try.prog) (t := 23) (ty := 23) (c := c1) Try.underlying23 intI_info (by omega) (HA1.out.below hBw.out (Nat.le_refl _)) (by show 0 + n1 ≤ _; have := HNN.out; omega) hBw.out.size
          have HR := Lib.hid hrun
          have HO' : Hid (OwnF .i64 3 w4 w.heap.size v4 (cat2 xs ys 1)) := Lib.hid hO'
          have HB' := Lib.hid (hBw.out.trans (hG'.below hBw.out.size hOw.out.own.row))
          clear hrun hO' hG' hOw e1
          go_wp2_with (at_builtin; refine wpList_append_run rfl (.tmp 31) (.tmp 32) 23 rfl rfl rfl HR.out ?_)
          go_roundw
          case rel => exact ⟨HB', 1, by omega, by go_num, HO'⟩
          case measure => simp [intOf]
        · obtain ⟨v4, w4, hrun, hO', hG'⟩ := hOw.out.catF (P := Try.prog) (t := 23) (ty := 23) (c := c2) Try.underlying23 intI_info (by omega) (HA2.out.below hBw.out (Nat.le_refl _)) (by show xs.length + n2 ≤ _; have := HNN.out; omega) hBw.out.size
          have HR := Lib.hid hrun
          have HO' : Hid (OwnF .i64 3 w4 w.heap.size v4 (cat2 xs ys 2)) := Lib.hid hO'
          have HB' := Lib.hid (hBw.out.trans (hG'.below hBw.out.size hOw.out.own.row))
          clear hrun hO' hG' hOw e0
          go_wp2_with (at_builtin; refine wpList_append_run rfl (.tmp 31) (.tmp 32) 23 rfl rfl rfl HR.out ?_)
          go_roundw
          case rel => exact ⟨HB', 2, by omega, by go_num, HO'⟩
          case measure => simp [intOf]
        · have HO' : Hid (OwnF .i64 3 wr w.heap.size _ (xs ++ ys)) := hOw
          clear hOw e0 e1
          go_wp2
          go_ret
          exact ⟨_, rfl, HO'.out, hBw.out⟩

/-- slices.Sort keeps what lies behind the length. -/
theorem sortI_ownF (v : Value) (xs : List Int) (base : Nat) (w : World) (h : OwnF .i64 3 w base v xs) (hs : xs.length < 4611686018427387904) (hB : base ≤ w.heap.size) :
    Calls Try.prog 67 #[v] w fun e w' => e = .returned (.tuple #[]) ∧ OwnF .i64 3 w' base v (sortL xs) ∧ Below base w w' := by
  have ho := h.own
  rcases h with ⟨rfl, rfl⟩ | ⟨g, c, sp, rfl, hbg, hlc, hcm, hW⟩
  · refine (Try.slices_Sort_int_none none 0 w).mono ?_
    rintro e w' ⟨rfl, rfl⟩
    exact ⟨rfl, .inl ⟨rfl, by simp [sortL]⟩, Below.refl _ _⟩
  · obtain ⟨g', cap, hv, _, hg, hnc, _, _, hH⟩ := Lib.holds_of_ownsRow (enc := Value.int .i64) ho.1 (by intro h; cases h)
    injection hv with e1 _ e3
    injection e1 with e1
    injection e1 with e1
    subst e1 e3
    refine (Try.slices_Sort_int g 0 c xs w hH hg hs).mono ?_
    rintro e w' ⟨rfl, n, os, rfl⟩
    have hb : Below base w (Go.Sort.putRow (Value.int .i64) (Go.Sort.ahead w n) g 0 (sortL xs).toArray) := Lib.below_putRow (Below.refl _ _) hbg
    refine ⟨rfl, .inr ⟨g, c, sp, by rw [sortL_len], hbg, by rw [List.length_append, sortL_len, ← List.length_append]; exact hlc, hcm, ?_, fun y hy => ?_⟩, below_growB hb (Nat.le_trans hB hb.size) os⟩
    · have hlt : g < (Go.Sort.putRow (Value.int .i64) (Go.Sort.ahead w n) g 0 (sortL xs).toArray).heap.size := Nat.lt_of_lt_of_le hW.lt hb.size
      show (Go.Sort.grow (Go.Sort.putRow (Value.int .i64) (Go.Sort.ahead w n) g 0 (sortL xs).toArray) os).heap[g]? = _
      rw [Go.Sort.heap_grow_old _ os hlt]
      have h1 := hW.1
      simp only [Go.Sort.putRow, Go.Sort.mapBlock, Go.Sort.ahead, Array.getElem?_modify, h1, if_true, Option.map_some, Go.Sort.onCells]
      refine congrArg some ?_
      refine congrArg (fun q => Obj.cells q 3 (0, 0)) ?_
      apply Array.ext'
      apply List.ext_getElem?
      intro j
      have hl := sortL_len xs
      simp only [Go.Sort.putCells, Array.toList_mapIdx, List.getElem?_mapIdx, List.getElem?_map, List.map_append, List.size_toArray, Nat.zero_le, Nat.zero_add, Nat.sub_zero, true_and, List.getElem?_append, List.length_map, hl]
      by_cases hj : j < xs.length
      · simp only [hj, if_true]
        have hj2 : j < (sortL xs).length := by omega
        simp [List.getElem?_eq_getElem hj, getElem!_pos, hj2]
      · simp only [hj, if_false]
        cases sp[j - xs.length]? <;> simp
    · rcases List.mem_append.1 hy with h1 | h1
      · exact hW.2 y (List.mem_append_left _ (sortL_mem.1 h1))
      · exact hW.2 y (List.mem_append_right _ h1)
end Go.Proofs.Ythdnfocemchgjaa
