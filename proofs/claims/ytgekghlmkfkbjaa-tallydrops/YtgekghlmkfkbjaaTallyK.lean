/-
  slices.Delete of one number.
-/
import Derived.Test.YtgekghlmkfkbjaaTallyM
import Derived.Test.YtgekghlmkfkbjaaRoomG
import Derived.Test.YtgekghlmkfkbjaaOwnF
namespace Go.Proofs.Ytgekghlmkfkbjaa
open Go.RowKit

theorem run_clear_rowGT {P : Program} (w : World) (sT ty elem : TypeId) (g o n c : Nat) (cur : List Value) (t : TypeId) (z : Value) (cs : List Value) (hn : 0 < n)
    (hu : P.underlying sT = some (.slice elem)) (hz : ∀ w, (zeroValue elem).run P w = .ok z w) (hcs : (Builtin.zeroCells z.cells n).toList = cs) (hg : w.heap[g]? = some (.cells cur.toArray t (0, 0))) (hfit : o + cs.length ≤ cur.length) (h1 : ∀ v ∈ cs, v.oneCell' = true) :
    Sem.run P (Builtin.clear_ #[sT] ty #[.slice (some ⟨g, o, none⟩) n c]) w = .ok (.tuple #[]) (w.setRow g (splice cur o cs).toArray) := by
  have hst := run_storeCells_at P g o t cs 0 cur.toArray w hg (by simpa using hfit) h1
  obtain ⟨m, rfl⟩ : ∃ m, n = m + 1 := ⟨n - 1, by omega⟩
  simp [Builtin.clear_, run_underlying hu, hz, hcs, hst, splice]
theorem run_midGT {P : Program} {t e : TypeId} {sz : Nat} (ht : P.underlying t = some (.slice e)) (hs : (P.info? e).map (·.size) = some sz) (g off len cap p q : Nat) (l h : Int) (hl : l = p) (hh : h = q) (hp : p < q) (hc : q ≤ cap) :
    ∀ wx, Sem.run P (Instr.slice t (.slice (some ⟨g, off, none⟩) len cap) (some (.int .i64 l)) (some (.int .i64 h)) none) wx = .ok (.slice (some ⟨g, off + p * sz, none⟩) (q - p) (cap - p)) wx := by
  have he : P.elem t = e := by simp [Program.elem, ht]
  have ht' : P.underlying t = some (.slice (P.elem t)) := by rw [he]; exact ht
  intro wx
  rw [run_slice_lh wx t (some ⟨g, off, none⟩) len cap ht' .i64 .i64 l h (by omega) (by omega) (by omega)]
  cases hi : P.info? e with
  | none => simp [hi] at hs
  | some i =>
    have h1 : i.size = sz := by simpa [hi] using hs
    have e1 : l.toNat = p := by omega
    have e2 : h.toNat = q := by omega
    have e3 : ¬ cap = p := by omega
    simp [he, sizeOf, typeInfo, hi, h1, sliced, e1, e2, e3]
    unfold Addr.add; split <;> simp_all
theorem run_fromST {P : Program} {t e : TypeId} {sz : Nat} (ht : P.underlying t = some (.slice e)) (hs : (P.info? e).map (·.size) = some sz) (g off len cap p : Nat) (l : Int) (hl : l = p) (hp : p ≤ len) (hc : len ≤ cap) :
    ∃ ad : Addr, (∀ wx, Sem.run P (Instr.slice t (.slice (some ⟨g, off, none⟩) len cap) (some (.int .i64 l)) none none) wx = .ok (.slice (some ad) (len - p) (cap - p)) wx) ∧ (0 < len - p → ad = ⟨g, off + p * sz, none⟩) := by
  obtain ⟨D, h1, h2⟩ := run_fromG ht hs (some ⟨g, off, none⟩) len cap p l hl hp hc
  rcases Nat.eq_zero_or_pos (len - p) with h0 | h0
  · cases D with
    | none =>
      exfalso
      have he : P.elem t = e := by simp [Program.elem, ht]
      have ht' : P.underlying t = some (.slice (P.elem t)) := by rw [he]; exact ht
      have h3 := h1 default
      rw [run_slice_l default t (some ⟨g, off, none⟩) len cap ht' .i64 l (by omega) (by omega)] at h3
      cases hi : P.info? e with
      | none => simp [hi] at hs
      | some i =>
        simp [he, sizeOf, typeInfo, hi, sliced] at h3
        have h4 := h3.1
        split at h4 <;> cases h4
    | some ad => exact ⟨ad, h1, fun h => absurd h (by omega)⟩
  · obtain rfl := h2 g off rfl h0
    exact ⟨_, h1, fun _ => rfl⟩
theorem run_lhmGT {P : Program} {t e : TypeId} {sz : Nat} (ht : P.underlying t = some (.slice e)) (hs : (P.info? e).map (·.size) = some sz) (A : Option Addr) (len cap : Nat) (l h m : Int) (h0 : 0 ≤ l) (h1 : l ≤ h) (h2 : h ≤ m) (h3 : m ≤ cap) :
    ∃ v, ∀ wx, Sem.run P (Instr.slice t (.slice A len cap) (some (.int .i64 l)) (some (.int .i64 h)) (some (.int .i64 m))) wx = .ok v wx := by
  have he : P.elem t = e := by simp [Program.elem, ht]
  have ht' : P.underlying t = some (.slice (P.elem t)) := by rw [he]; exact ht
  cases hi : P.info? e with
  | none => simp [hi] at hs
  | some i =>
    refine ⟨sliced A l.toNat h.toNat m.toNat i.size, fun wx => ?_⟩
    rw [run_slice_lhm wx t A len cap ht' .i64 .i64 .i64 l h m h0 h1 h2 h3]
    simp [he, sizeOf, typeInfo, hi]
theorem intS : (Try.prog.info? 3).map (·.size) = some 1 := by kernel_rfl
theorem delI64 : (Try.prog.info? 3).map (fun i => (i.zero, i.size, i.bytes)) = some (some (.int .i64 0), 1, 8) := by kernel_rfl
theorem splice_ints {k : IntKind} (L cs : List Int) (o : Nat) : splice (L.map (Value.int k)) o (cs.map (Value.int k)) = (splice L o cs).map (Value.int k) := by
  unfold splice
  simp [List.map_append, List.map_take, List.map_drop]
/-- What is left when one of them is taken away, in place. -/
theorem del_row {xs sp : List Int} {i n : Nat} (hl : xs.length = n) (hi : i < n) : splice (splice (xs ++ sp) i (xs.drop (i + 1))) (n - 1) [0] = withoutL xs i ++ 0 :: sp := by
  have h1 : splice (xs ++ sp) i (xs.drop (i + 1)) = withoutL xs i ++ (xs ++ sp).drop (n - 1) := by
    unfold splice withoutL
    rw [List.take_append_of_le_length (by omega), List.length_drop, show i + (xs.length - (i + 1)) = n - 1 by omega, List.append_assoc]
  rw [h1]
  have h2 : (withoutL xs i).length = n - 1 := by rw [without_len (by omega), hl]
  unfold splice
  rw [List.take_append_of_le_length (by omega), List.take_of_length_le (by omega), List.length_singleton, List.drop_append, h2]
  rw [List.drop_eq_nil_of_le (by omega), List.nil_append, show n - 1 + 1 - (n - 1) = 1 by omega, List.drop_drop, show n - 1 + 1 = n by omega, ← hl, List.drop_left]
  simp

set_option maxRecDepth 8000 in
set_option maxHeartbeats 1000000 in
theorem deleteI_any (A : Option Addr) (n c i : Nat) (J : Int) (xs : List Int) (w : World) (base : Nat) (hO : OwnF .i64 3 w base (.slice A n c) xs) (hl : xs.length = n) (hi : i < n) (hJ : J = (i : Int) + 1) (hn : n * 8 ≤ 140737488351232) :
    Calls Try.prog 21 #[.slice A n c, .int .i64 i, .int .i64 J] w fun e w' => e = .returned (.slice A (n - 1) c) ∧ OwnF .i64 3 w' base (.slice A (n - 1) c) (withoutL xs i) ∧ Below base w w' := by
  rcases hO with ⟨h1, _⟩ | ⟨g, c', sp, h1, hbg, hlc, hcm, hW⟩
  · injection h1 with _ e2 _
    omega
  injection h1 with e1 e2 e3
  clear e2
  subst e1 e3
  obtain ⟨m, hm⟩ : ∃ m, n = m + 1 := ⟨n - 1, by omega⟩
  have hlc2 := hlc
  rw [List.length_append] at hlc2
  have hc : n ≤ c := by omega
  unfold maxLen at hcm
  obtain ⟨D1, hs1, hD1⟩ := run_uptoG (P := Try.prog) Try.underlying23 intS (some ⟨g, 0, none⟩) n c i i rfl (by omega)
  obtain rfl := hD1 g 0 rfl
  obtain ⟨ad, hs2, hD2⟩ := run_fromST (P := Try.prog) Try.underlying23 intS g 0 n c (i + 1) J (by omega) (by omega) hc
  have hni : n - (i + 1) = m - i := by omega
  rw [hni] at hs2 hD2
  obtain ⟨V0, hs0⟩ := run_lhmGT (P := Try.prog) Try.underlying23 intS (some ⟨g, 0, none⟩) n c i J n (by omega) (by omega) (by omega) (by omega)
  obtain ⟨ti, hti, _, hts, _⟩ := info_parts delI64
  have hgd : Whole .i64 3 (w.drewN 1) g (xs ++ sp) := hW
  obtain ⟨news, hnews⟩ : ∃ news, (xs.drop (i + 1)).map (Value.int .i64) = news := ⟨_, rfl⟩
  have hnl : news.length = m - i := by rw [← hnews, List.length_map, List.length_drop]; omega
  have hn1 : ∀ v ∈ news, v.oneCell' = true := by
    rw [← hnews]
    intro v hv
    obtain ⟨z, _, rfl⟩ := List.mem_map.1 hv
    rfl
  have hfit : 0 + i * 1 + news.length ≤ ((xs ++ sp).map (Value.int .i64)).length := by rw [hnl, List.length_map]; omega
  have happ := run_append_room_cells (P := Try.prog) (w.drewN 1) 23 23 3 ti Try.underlying23 hti g 0 i c ad (m - i) (c - (i + 1)) news (by rw [hts, Nat.mul_one]; exact hnl)
    (fun j u hj => by
      have hj' : j < news.length := (List.getElem?_eq_some_iff.1 hj).1
      rw [hD2 (by omega)]
      have e1 : (⟨g, 0 + (i + 1) * 1, none⟩ : Addr).add j = ⟨g, 0 + (i + 1) * 1 + j, none⟩ := by unfold Addr.add; split <;> simp_all
      rw [e1, cell_of_row _ g _ _ _ (0, 0) hgd.1, List.getElem?_toArray, ← hj, ← hnews, List.getElem?_map, List.getElem?_map, List.getElem?_drop, List.getElem?_append_left (by omega)]
      simp) hn1 (by omega)
    (fun j hj => by
      rw [cell_of_row _ g _ _ _ (0, 0) hgd.1, List.getElem?_toArray, hts, List.getElem?_eq_getElem (by omega)]; rfl)
    (fun j hj => by
      have h2 : (w.drewN 1).heap[g]? = _ := hgd.1
      unfold World.frozen?
      rw [h2]
      simp)
  rw [hts, setCells_rowJ (P := Try.prog) hgd.1 hfit hn1, show i + (m - i) = m by omega, ← hnews, splice_ints, Nat.zero_add, Nat.mul_one] at happ
  have hwf : ∀ z ∈ splice (xs ++ sp) i (xs.drop (i + 1)), (Lit.int .i64 z).wf = true := fun z hz => by
    unfold splice at hz
    rcases List.mem_append.1 hz with h | h
    · exact hW.2 z (List.mem_of_mem_take h)
    · rcases List.mem_append.1 h with h | h
      · exact hW.2 z (List.mem_append_left _ (List.mem_of_mem_drop h))
      · exact hW.2 z (List.mem_of_mem_drop h)
  have hW1 := hgd.setRow hwf
  have hsl : (splice (xs ++ sp) i (xs.drop (i + 1))).length = c := by rw [length_splice _ _ _ (by rw [List.length_drop, List.length_append]; omega), List.length_append]; omega
  have hB1 : Below base w ((w.drewN 1).setRow g ((splice (xs ++ sp) i (xs.drop (i + 1))).map (Value.int .i64)).toArray) := below_setRow (below_drewN (Below.refl _ w) 1) hbg _
  generalize ((w.drewN 1).setRow g ((splice (xs ++ sp) i (xs.drop (i + 1))).map (Value.int .i64)).toArray) = W1 at *
  have hs3 := run_midGT (P := Try.prog) Try.underlying23 intS g 0 m c m n m n rfl rfl (by omega) hc
  have hnm : n - m = 1 := by omega
  rw [hnm] at hs3
  simp only [Nat.zero_add, Nat.mul_one] at hs3
  have hcl := run_clear_rowGT (P := Try.prog) W1 23 0 3 g m 1 (c - m) _ 3 (.int .i64 0) [.int .i64 0] (by omega) Try.underlying23 (fun _ => by kernel_rfl) (by kernel_rfl) hW1.1 (by rw [List.length_map, hsl]; simp; omega) (by simp [Value.oneCell'])
  rw [show ([Value.int .i64 0] : List Value) = ([0] : List Int).map (Value.int .i64) from rfl, splice_ints, show m = n - 1 by omega, del_row hl hi] at hcl
  have hwf2 : ∀ z ∈ withoutL xs i ++ 0 :: sp, (Lit.int .i64 z).wf = true := fun z hz => by
    rcases List.mem_append.1 hz with h | h
    · exact hW.2 z (List.mem_append_left _ (without_sub h))
    · rcases List.mem_cons.1 h with rfl | h
      · decide
      · exact hW.2 z (List.mem_append_right _ h)
  have hW2 := hW1.setRow hwf2
  have hB2 := below_setRow hB1 hbg ((withoutL xs i ++ 0 :: sp).map (Value.int .i64)).toArray
  have hwl : (withoutL xs i).length = m := by rw [without_len (by omega)]; omega
  have HO : Hid (OwnF .i64 3 (W1.setRow g ((withoutL xs i ++ 0 :: sp).map (Value.int .i64)).toArray) base (.slice (some ⟨g, 0, none⟩) m c) (withoutL xs i)) := .inr ⟨g, c, 0 :: sp, by rw [hwl], hbg, by rw [List.length_append, hwl, List.length_cons]; omega, by unfold maxLen; omega, hW2⟩
  have HB := Lib.hid hB2
  rw [show n - 1 = m by omega] at hcl
  have HR := Lib.hid happ
  have cij : ((i : Int) == J) = false := by simp; omega
  rw [show n - 1 = m by omega]
  clear hl hi hJ hnews hnl hn1 hD1 hD2 hni hti hts hgd hfit hW1 hnm hW2 happ hm hW hlc hlc2 hwf hwf2 hsl hwl hB1 hB2
  generalize (W1.setRow g ((withoutL xs i ++ 0 :: sp).map (Value.int .i64)).toArray) = W2 at *
  go_enter Try.func21, Try.ntmps21
  go_wp2_with fail
  go_still_tail 6, (by kernel_rfl)
  change wpList _ _ _ _ _ (w.drewN 1)
  go_wp2_with (at_builtin; refine wpList_append_run rfl (.tmp 22) (.tmp 25) 23 rfl rfl rfl HR.out ?_)
  go_ret
  exact ⟨rfl, HO.out, HB.out⟩
end Go.Proofs.Ytgekghlmkfkbjaa
