/-
  Contracts of slices.Delete and slices.Insert, of one element, at []api.Pin.
-/
import Derived.Test.YtedndmhekjfpdaaPinG
namespace Go.Proofs.Ytedndmhekjfpdaa
open Go.RowKit

section
variable {α : Type} {enc : α → List Value} {size : Nat}
theorem flat_take (hs : ∀ a, (enc a).length = size) (l : List α) (i : Nat) (hi : i ≤ l.length) : (l.flatMap enc).take (i * size) = (l.take i).flatMap enc := by
  have h := flat_length hs (l.take i)
  rw [List.length_take, Nat.min_eq_left hi] at h
  conv => lhs; rw [← List.take_append_drop i l, List.flatMap_append]
  rw [List.take_left' h]
theorem flat_drop (hs : ∀ a, (enc a).length = size) (l : List α) (i : Nat) (hi : i ≤ l.length) : (l.flatMap enc).drop (i * size) = (l.drop i).flatMap enc := by
  have h := flat_length hs (l.take i)
  rw [List.length_take, Nat.min_eq_left hi] at h
  conv => lhs; rw [← List.take_append_drop i l, List.flatMap_append]
  rw [List.drop_left' h]
/-- What the row holds from an element on. -/
theorem row_from (hs : ∀ a, (enc a).length = size) {cur : List Value} {l : List α} {n i : Nat} (hl : l.length = n) (hi : i ≤ n) (ht : cur.take (n * size) = l.flatMap enc) (j : Nat) (v : Value) (hj : ((l.drop i).flatMap enc)[j]? = some v) : cur[i * size + j]? = some v := by
  rw [← flat_drop hs l i (by omega), List.getElem?_drop, ← ht, List.getElem?_take] at hj
  split at hj
  · exact hj
  · cases hj
theorem row_upto (hs : ∀ a, (enc a).length = size) {cur : List Value} {l : List α} {n i : Nat} (hl : l.length = n) (hi : i ≤ n) (ht : cur.take (n * size) = l.flatMap enc) : cur.take (i * size) = (l.take i).flatMap enc := by
  rw [← flat_take hs l i (by omega), ← ht, List.take_take, Nat.min_eq_left (Nat.mul_le_mul_right _ hi)]
theorem flat_one (h1 : ∀ a, ∀ u ∈ enc a, u.oneCell' = true) (l : List α) : ∀ v ∈ l.flatMap enc, v.oneCell' = true := by
  intro v hv
  obtain ⟨a, _, ha⟩ := List.mem_flatMap.1 hv
  exact h1 a v ha
end
theorem frozen_row {w : World} {g j : Nat} {cs : Array Value} {t : TypeId} (h : w.heap[g]? = some (.cells cs t (0, 0))) : w.frozen? ⟨g, j, none⟩ = false := by simp [World.frozen?, h]
theorem splice_head {L cs : List Value} {o : Nat} (h : o ≤ L.length) : (splice L o cs).take o = L.take o := by
  unfold splice
  rw [List.take_left' (by rw [List.length_take]; omega)]
theorem splice_upto {L cs : List Value} {o : Nat} (h : o ≤ L.length) : (splice L o cs).take (o + cs.length) = L.take o ++ cs := by
  unfold splice
  rw [← List.append_assoc, List.take_left' (by rw [List.length_append, List.length_take]; omega)]
theorem splice_behind {L cs : List Value} {o : Nat} (h : o ≤ L.length) : (splice L o cs).drop (o + cs.length) = L.drop (o + cs.length) := by
  unfold splice
  rw [← List.append_assoc, List.drop_left' (by rw [List.length_append, List.length_take]; omega)]
/-- 'x[p:]' of a slice of structs that has an address. -/
theorem run_fromS {P : Program} {t e : TypeId} {sz : Nat} (ht : P.underlying t = some (.slice e)) (hs : (P.info? e).map (·.size) = some sz) (g off len cap p : Nat) (l : Int) (hl : l = p) (hp : p ≤ len) (hc : len ≤ cap) :
    ∃ ad : Addr, (∀ wx, Sem.run P (Instr.slice t (.slice (some ⟨g, off, none⟩) len cap) (some (.int .i64 l)) none none) wx = .ok (.slice (some ad) (len - p) (cap - p)) wx) ∧ (0 < len - p → ad = ⟨g, off + p * sz, none⟩) := by
  obtain ⟨D, h1, h2⟩ := run_fromG ht hs (some ⟨g, off, none⟩) len cap p l hl hp hc
  rcases Nat.eq_zero_or_pos (len - p) with h0 | h0
  · cases D with
    | none =>
      exfalso
      have he : P.elem t = e := by simp [Program.elem, ht]
      have ht' : P.underlying t = some (.slice (P.elem t)) := by rw [he]; exact ht
      have h3 := h1 default
      rw [run_slice_l default t (some ⟨g, off, none⟩) len cap ht' .i64 l (by omega) (by omega)] at h3
      cases hi : P.info? e with
      | none => simp [hi] at hs
      | some i =>
        simp [he, sizeOf, typeInfo, hi, sliced] at h3
        have h4 := h3.1
        split at h4 <;> cases h4
    | some ad => exact ⟨ad, h1, fun h => absurd h (by omega)⟩
  · obtain rfl := h2 g off rfl h0
    exact ⟨_, h1, fun _ => rfl⟩
theorem run_lhmG {P : Program} {t e : TypeId} {sz : Nat} (ht : P.underlying t = some (.slice e)) (hs : (P.info? e).map (·.size) = some sz) (A : Option Addr) (len cap : Nat) (l h m : Int) (h0 : 0 ≤ l) (h1 : l ≤ h) (h2 : h ≤ m) (h3 : m ≤ cap) :
    ∃ v, ∀ wx, Sem.run P (Instr.slice t (.slice A len cap) (some (.int .i64 l)) (some (.int .i64 h)) (some (.int .i64 m))) wx = .ok v wx := by
  have he : P.elem t = e := by simp [Program.elem, ht]
  have ht' : P.underlying t = some (.slice (P.elem t)) := by rw [he]; exact ht
  cases hi : P.info? e with
  | none => simp [hi] at hs
  | some i =>
    refine ⟨sliced A l.toNat h.toNat m.toNat i.size, fun wx => ?_⟩
    rw [run_slice_lhm wx t A len cap ht' .i64 .i64 .i64 l h m h0 h1 h2 h3]
    simp [he, sizeOf, typeInfo, hi]

set_option maxRecDepth 8000 in
set_option maxHeartbeats 1000000 in
theorem deleteP_any (A : Option Addr) (n c i : Nat) (J : Int) (l : List (Int × Int)) (w : World) (base : Nat) (hO : FullG runC 2 57 w base A n c l) (hl : l.length = n) (hi : i < n) (hJ : J = (i : Int) + 1) (hn : n ≤ 16) :
    Calls Try.prog 44 #[.slice A n c, .int .i64 i, .int .i64 J] w fun e w' => ∃ A' c', e = .returned (.slice A' (n - 1) c') ∧ FullG runC 2 57 w' base A' (n - 1) c' (l.take i ++ l.drop (i + 1)) ∧ Below base w w' := by
  have hc := hO.2.1
  have hcm := hO.2.2.1
  have hAn : A ≠ none := fun h => by subst h; have := hO.none_zero.1; omega
  obtain ⟨g, cur, rfl, hbg, hg, hz, ht, hAI⟩ := hO.to_rowI hAn
  obtain ⟨m, hm⟩ : ∃ m, n = m + 1 := ⟨n - 1, by omega⟩
  unfold maxLen at hcm
  -- the cells that move
  obtain ⟨news, hnews⟩ : ∃ news, (l.drop (i + 1)).flatMap runC = news := ⟨_, rfl⟩
  have hnl : news.length = (m - i) * 2 := by
    rw [← hnews, flat_length runC_len, List.length_drop, hl, hm]
    congr 1; omega
  have hn1 : ∀ v ∈ news, v.oneCell' = true := by rw [← hnews]; exact flat_one runC_one _
  obtain ⟨D1, hs1, hD1⟩ := run_uptoG (P := Try.prog) Try.underlying54 pinS (some ⟨g, 0, none⟩) n c i i rfl (by omega)
  obtain rfl := hD1 g 0 rfl
  obtain ⟨ad, hs2, hD2⟩ := run_fromS (P := Try.prog) Try.underlying54 pinS g 0 n c (i + 1) J (by omega) (by omega) hc
  have hni : n - (i + 1) = m - i := by omega
  rw [hni] at hs2 hD2
  obtain ⟨V0, hs0⟩ := run_lhmG (P := Try.prog) Try.underlying54 pinS (some ⟨g, 0, none⟩) n c i J n (by omega) (by omega) (by omega) (by omega)
  obtain ⟨ti, hti, _, hts, _⟩ := info_parts pinI
  have hgd : (w.drewN 1).heap[g]? = some (.cells cur.toArray 57 (0, 0)) := hg
  have hfit : 0 + i * 2 + news.length ≤ cur.length := by rw [hnl, hz]; omega
  have happ := run_append_room_cells (P := Try.prog) (w.drewN 1) 54 54 57 ti Try.underlying54 hti g 0 i c ad (m - i) (c - (i + 1)) news (by rw [hts]; exact hnl)
    (fun j u hj => by
      have hj' : j < news.length := (List.getElem?_eq_some_iff.1 hj).1
      rw [hD2 (by omega)]
      have e1 : (⟨g, 0 + (i + 1) * 2, none⟩ : Addr).add j = ⟨g, 0 + (i + 1) * 2 + j, none⟩ := by unfold Addr.add; split <;> simp_all
      rw [e1, cell_of_row _ g _ _ _ (0, 0) hgd, Nat.zero_add, List.getElem?_toArray]
      exact row_from runC_len hl (by omega) ht j u (by rw [hnews]; exact hj)) hn1 (by omega)
    (fun j hj => by
      rw [cell_of_row _ g _ _ _ (0, 0) hgd, List.getElem?_toArray, hts, List.getElem?_eq_getElem (by omega)]; rfl)
    (fun j hj => frozen_row hgd)
  rw [hts, setCells_row hgd hfit hn1, show i + (m - i) = m by omega] at happ
  obtain ⟨cur1, hcur1⟩ : ∃ cur1, splice cur (0 + i * 2) news = cur1 := ⟨_, rfl⟩
  rw [hcur1] at happ
  have hl1 : cur1.length = c * 2 := by rw [← hcur1, length_splice _ _ _ hfit, hz]
  obtain ⟨W1, hW1⟩ : ∃ W1, (w.drewN 1).setRow g cur1.toArray = W1 := ⟨_, rfl⟩
  rw [hW1] at happ
  have hg1 : W1.heap[g]? = some (.cells cur1.toArray 57 (0, 0)) := by rw [← hW1]; exact setRow_heap _ g _ _ _ _ hgd
  have hB1 : Below base w W1 := by rw [← hW1]; exact below_setRow (below_drewN (Below.refl _ w) 1) hbg _
  have hs3 := run_midG (P := Try.prog) Try.underlying54 pinS g 0 m c m n m n rfl rfl (by omega) hc
  have hnm : n - m = 1 := by omega
  rw [hnm] at hs3
  simp only [Nat.zero_add] at hs3
  have hcl := run_clear_rowG (P := Try.prog) W1 54 0 57 g (m * 2) 1 (c - m) cur1 57 (.agg #[.int .i64 0, .int .i64 0]) [.int .i64 0, .int .i64 0] (by omega) Try.underlying54 (fun _ => by kernel_rfl) (by kernel_rfl) hg1 (by simp [hl1]; omega) (by simp [Value.oneCell'])
  obtain ⟨cur2, hcur2⟩ : ∃ cur2, splice cur1 (m * 2) [.int .i64 0, .int .i64 0] = cur2 := ⟨_, rfl⟩
  rw [hcur2] at hcl
  have hl2 : cur2.length = c * 2 := by rw [← hcur2, length_splice _ _ _ (by simp [hl1]; omega), hl1]
  obtain ⟨W2, hW2⟩ : ∃ W2, W1.setRow g cur2.toArray = W2 := ⟨_, rfl⟩
  rw [hW2] at hcl
  have hg2 : W2.heap[g]? = some (.cells cur2.toArray 57 (0, 0)) := by rw [← hW2]; exact setRow_heap _ g _ _ _ _ hg1
  have hB2 : Below base w W2 := by rw [← hW2]; exact below_setRow hB1 hbg _
  have htk : cur2.take (m * 2) = (l.take i ++ l.drop (i + 1)).flatMap runC := by
    rw [← hcur2]
    rw [splice_head (by rw [hl1]; omega), ← hcur1, Nat.zero_add, show m * 2 = i * 2 + news.length by rw [hnl]; omega, splice_upto (by rw [hz]; omega), row_upto runC_len hl (by omega) ht, List.flatMap_append, hnews]
  have hA2 : allI cur2 := by
    rw [← hcur2, ← hcur1]
    refine allI_splice (allI_splice hAI (by rw [← hnews]; exact allI_flat _)) ?_
    have := allI_flat [(0, 0)]
    simpa [runC] using this
  have HO := Lib.hid (FullG.of_rowI (l := l.take i ++ l.drop (i + 1)) (n := m) (by rw [List.length_append, List.length_take, List.length_drop]; omega) hg2 hbg (by omega) (by unfold maxLen; omega) hl2 htk hA2)
  have HB := Lib.hid hB2
  have HR := Lib.hid happ
  have cij : ((i : Int) == J) = false := by simp; omega
  rw [show n - 1 = m by omega]
  clear hO hl hi hJ hnews hnl hn1 hD1 hD2 hni hti hts hgd hfit hcur1 hl1 hW1 hg1 hB1 hnm hcur2 hl2 hW2 hg2 hB2 htk happ hm hz ht hg hAI hA2 hAn
  go_enter Try.func44, Try.ntmps44
  go_wp2_with fail
  go_still_tail 6, (by kernel_rfl)
  change wpList _ _ _ _ _ (w.drewN 1)
  go_wp2_with (at_builtin; refine wpList_append_run rfl (.tmp 22) (.tmp 25) 54 rfl rfl rfl HR.out ?_)
  go_ret
  exact ⟨_, _, rfl, HO.out, HB.out⟩
end Go.Proofs.Ytedndmhekjfpdaa
