/-
  Parts of the proof of CarrySlides: OwnF.
-/
import Derived.Deep.Upon
import Derived.Test.YtjefbekdjgmmbaaCarrySlidesAc
namespace Go.Proofs.Ytjefbekdjgmmbaa
open Go.RowKit
/-- The slice is nil, or all its memory, up to its capacity, is a block of integers from 'base' on. -/
def SpareI (k : IntKind) (t : TypeId) (base : Nat) (w : World) (A : Option Addr) (c : Nat) : Prop :=
  (A = none ∧ c = 0) ∨ ∃ g xs, A = some ⟨g, 0, none⟩ ∧ base ≤ g ∧ xs.length = c ∧ c ≤ maxLen ∧ Whole k t w g xs
section
variable {k : IntKind} {t : TypeId} {w w' : World} {base c : Nat} {A : Option Addr}
theorem SpareI.nil : SpareI k t base w none 0 := .inl ⟨rfl, rfl⟩
theorem SpareI.below {B : Nat} (h : SpareI k t base w A c) (hb : Below B w w') (hB : w.heap.size ≤ B) : SpareI k t base w' A c := by
  rcases h with h | ⟨g, xs, h1, h2, h3, h4, hW⟩
  · exact .inl h
  · exact .inr ⟨g, xs, h1, h2, h3, h4, hW.below hb (Nat.lt_of_lt_of_le hW.lt hB)⟩
theorem SpareI.less {base' : Nat} (h : SpareI k t base w A c) (hb : base' ≤ base) : SpareI k t base' w A c := by
  rcases h with h | ⟨g, xs, h1, h2, r⟩
  · exact .inl h
  · exact .inr ⟨g, xs, h1, Nat.le_trans hb h2, r⟩
theorem SpareI.drewN (h : SpareI k t base w A c) (q : Nat) : SpareI k t base (w.drewN q) A c := h
theorem SpareI.cap (h : SpareI k t base w A c) : c ≤ maxLen := by
  rcases h with ⟨_, rfl⟩ | ⟨_, _, _, _, _, h, _⟩
  · exact Nat.zero_le _
  · exact h
theorem Whole.setAnyI {g : Nat} {xs : List Int} (h : Whole k t w g xs) (g' j : Nat) (z : Int) (hz : (Lit.int k z).wf = true) : ∃ ys, ys.length = xs.length ∧ Whole k t (w.setCell ⟨g', j, none⟩ (.int k z)) g ys := by
  by_cases he : g' = g
  · subst he
    exact ⟨_, by simp, h.set_ j z hz⟩
  · refine ⟨xs, rfl, ?_, h.2⟩
    rw [← h.1]
    show (w.heap.modify g' _)[g]? = _
    rw [Array.getElem?_modify, if_neg he]
/-- A store of one of its integers, wherever. -/
theorem SpareI.set (h : SpareI k t base w A c) (g j : Nat) (z : Int) (hz : (Lit.int k z).wf = true) : SpareI k t base (w.setCell ⟨g, j, none⟩ (.int k z)) A c := by
  rcases h with h | ⟨g', xs, h1, h2, h3, h4, hW⟩
  · exact .inl h
  · obtain ⟨ys, hl, hW'⟩ := hW.setAnyI g j z hz
    exact .inr ⟨g', ys, h1, h2, by rw [hl]; exact h3, h4, hW'⟩
/-- A store into a block of another type. -/
theorem SpareI.other {k' : IntKind} {t' : TypeId} {g : Nat} {ys : List Int} (h : SpareI k t base w A c) (hg : Whole k' t' w g ys) (ht : t' ≠ t) (j : Nat) (d : Value) : SpareI k t base (w.setCell ⟨g, j, none⟩ d) A c := by
  rcases h with h | ⟨g', xs, h1, h2, h3, h4, hW⟩
  · exact .inl h
  · refine .inr ⟨g', xs, h1, h2, h3, h4, ?_, hW.2⟩
    have hne : g ≠ g' := by
      rintro rfl
      have h5 := hg.1.symm.trans hW.1
      injection h5 with h5
      injection h5 with _ h6
      exact ht h6
    rw [← hW.1]
    show (w.heap.modify g _)[g']? = _
    rw [Array.getElem?_modify, if_neg hne]
end
/-- A slice of integers that the call makes and appends to, its memory known up to its capacity. -/
def OwnF (k : IntKind) (e : TypeId) (w : World) (base : Nat) (v : Value) (xs : List Int) : Prop :=
  (v = .slice none 0 0 ∧ xs = []) ∨ ∃ g c sp, v = .slice (some ⟨g, 0, none⟩) xs.length c ∧ base ≤ g ∧ (xs ++ sp).length = c ∧ c ≤ maxLen ∧ Whole k e w g (xs ++ sp)
section
variable {k : IntKind} {e : TypeId} {w w' : World} {base : Nat} {v : Value} {xs : List Int}
theorem OwnF.nil : OwnF k e w base (.slice none 0 0) [] := .inl ⟨rfl, rfl⟩
theorem OwnF.below {B : Nat} (h : OwnF k e w base v xs) (hb : Below B w w') (hB : w.heap.size ≤ B) : OwnF k e w' base v xs := by
  rcases h with h | ⟨g, c, sp, h1, h2, h3, h4, hW⟩
  · exact .inl h
  · exact .inr ⟨g, c, sp, h1, h2, h3, h4, hW.below hb (Nat.lt_of_lt_of_le hW.lt hB)⟩
theorem OwnF.of_whole {g : Nat} {ys : List Int} (h : Whole k e w g ys) {n : Nat} (hn : ys.length = n) (hm : n ≤ maxLen) (hg : base ≤ g) : OwnF k e w base (.slice (some ⟨g, 0, none⟩) 0 n) [] := .inr ⟨g, n, ys, rfl, hg, hn, hm, h⟩
theorem OwnF.own (h : OwnF k e w base v xs) : Own k e w base v xs := by
  rcases h with ⟨rfl, rfl⟩ | ⟨g, c, sp, rfl, h2, h3, h4, hW⟩
  · exact Own.nil
  · rw [List.length_append] at h3
    refine ⟨⟨by simp, .inr ⟨g, c, _, rfl, h2, hW.1, by omega, h4, by simp; omega, ?_⟩⟩, fun x hx => hW.2 x (List.mem_append_left _ hx)⟩
    rw [List.map_append]
    simp
theorem OwnF.arr (h : OwnF k e w base v xs) : ∃ A c, v = .slice A xs.length c ∧ xs.length ≤ c ∧ Arr k w w.heap.size A xs.length xs ∧ SpareI k e base w A c := by
  have ho := h.own
  obtain ⟨A, c, hv, hc, ha⟩ := ho.arr
  refine ⟨A, c, hv, hc, ha, ?_⟩
  rcases h with ⟨h1, _⟩ | ⟨g, c', sp, h1, h2, h3, h4, hW⟩
  · rw [hv] at h1
    injection h1 with e1 _ e3
    subst e1
    exact .inl ⟨rfl, e3⟩
  · rw [hv] at h1
    injection h1 with e1 _ e3
    subst e1
    subst e3
    exact .inr ⟨g, _, rfl, h2, h3, h4, hW⟩
theorem zeros_ints (k : IntKind) (q : Nat) : Builtin.zeroCells (Value.int k 0).cells q = ((List.replicate q (0 : Int)).map (Value.int k)).toArray := by
  apply Array.ext'
  simp [Builtin.zeroCells, Value.cells, Nat.mod_one]
  apply List.ext_getElem
  · simp
  · intro i h1 h2
    simp
theorem setCells_rowJ {P : Program} {w : World} {g o : Nat} {cur : List Value} {t : TypeId} {vs : List Value} (hg : w.heap[g]? = some (.cells cur.toArray t (0, 0))) (hfit : o + vs.length ≤ cur.length) (h1 : ∀ v ∈ vs, v.oneCell' = true) :
    w.setCells g o vs = w.setRow g (splice cur o vs).toArray := by
  have hst := run_storeCells_at P g o t vs 0 cur.toArray w hg (by simpa using hfit) h1
  have hs2 := run_storeCells_cells (P := P) g o vs 0 w (fun j hj => by
      rw [cell_of_row w g _ _ t (0, 0) hg]
      simp
      omega) (fun j hj => by simp [World.frozen?, hg]) h1
  rw [hst] at hs2
  injection hs2 with _ hs2
  rw [Nat.add_zero] at hs2
  rw [← hs2]
  simp [splice]
theorem grew_row {w w2 : World} {g : Nat} {n c n' c' : Nat} (h : Below w.heap.size w w2) (cs : Array Value) : Grew w (.slice (some ⟨g, 0, none⟩) n c) (w2.setRow g cs) (.slice (some ⟨g, 0, none⟩) n' c') :=
  ⟨h.os, h.tape, h.output, by have := h.size; simp [World.setRow]; omega, fun i hi hne => by
    rw [setRow_other _ _ _ _ (fun e => hne (by rw [e]; rfl))]
    exact h.block i hi, .inl rfl⟩
/-- 'append(v, x)'. -/
theorem OwnF.pushF {P : Program} {t ty : TypeId} (h : OwnF k e w base v xs) (ht : P.underlying t = some (.slice e)) {bytes : Nat} (hinfo : (P.info? e).map (fun i => (i.zero, i.size, i.bytes)) = some (some (.int k 0), 1, bytes))
    (hb8 : bytes ≤ 8) {x : Int} (hx : (Lit.int k x).wf = true) (hn : xs.length + 1 ≤ 1073741824) (hbase : base ≤ w.heap.size) :
    ∃ v' w', Sem.run P (Builtin.append_ #[t, t] ty #[v, .slice (some ⟨w.heap.size, 0, none⟩) 1 1]) (w.alloc (.cells #[.int k x] e)) = .ok v' w' ∧ OwnF k e w' base v' (xs ++ [x]) ∧ Grew w v w' v' := by
  obtain ⟨i, hi, hz, hs, hby⟩ := info_parts hinfo
  have hnews : ∀ j u, ([.int k x] : List Value)[j]? = some u → (w.alloc (.cells #[.int k x] e)).cell? ((⟨w.heap.size, 0, none⟩ : Addr).add j) = some u := by
    intro j u hj
    match j, hj with
    | 0, hj => simp at hj; subst hj; simp [Addr.add]
  have hone : ∀ u ∈ ([.int k x] : List Value), u.oneCell' = true := fun u hu => by rw [List.mem_singleton.1 hu]; rfl
  have hnl : ([.int k x] : List Value).length = 1 * i.size := by rw [hs]; rfl
  have hb48 : ∀ q, q ≤ 1073741824 → q * i.bytes ≤ 140737488355328 := fun q hq => by
    rw [hby]
    calc q * bytes ≤ q * 8 := Nat.mul_le_mul_left _ hb8
      _ ≤ 140737488355328 := by omega
  have bW : Below w.heap.size w (w.alloc (.cells #[.int k x] e)) := (Below.refl _ _).alloc (Nat.le_refl _) _
  have hWs : (w.alloc (.cells #[.int k x] e)).heap.size = w.heap.size + 1 := by simp
  have hwf : ∀ y ∈ xs ++ [x], (Lit.int k y).wf = true := fun y hy => by
    rcases List.mem_append.1 hy with h1 | h1
    · exact h.own.2 y h1
    · rw [List.mem_singleton.1 h1]; exact hx
  have hz0 : (Lit.int k 0).wf = true := by cases k <;> decide
  have hnew : ∀ {cap : Nat} {l : List Int} {W : World}, Below w.heap.size w W → w.heap.size + 1 ≤ W.heap.size → l.length ≤ cap → cap ≤ maxLen → (∀ y ∈ l, (Lit.int k y).wf = true) → l.length = xs.length + 1 → l = xs ++ [x] →
      OwnF k e (W.alloc (.cells ((l ++ List.replicate (cap - l.length) 0).map (Value.int k)).toArray e)) base (.slice (some ⟨W.heap.size, 0, none⟩) l.length cap) (xs ++ [x]) ∧ Grew w v (W.alloc (.cells ((l ++ List.replicate (cap - l.length) 0).map (Value.int k)).toArray e)) (.slice (some ⟨W.heap.size, 0, none⟩) l.length cap) := by
    rintro cap l W hb hs1 hlc hcm hlw hll rfl
    refine ⟨.inr ⟨_, cap, List.replicate (cap - (xs ++ [x]).length) 0, rfl, by omega, by rw [List.length_append, List.length_replicate]; omega, hcm, whole_new k e W _ fun y hy => ?_⟩, ?_⟩
    · rcases List.mem_append.1 hy with h1 | h1
      · exact hlw y h1
      · rw [List.eq_of_mem_replicate h1]; exact hz0
    · have hb2 := hb.alloc (show w.heap.size ≤ W.heap.size by omega) (.cells (((xs ++ [x]) ++ List.replicate (cap - (xs ++ [x]).length) 0).map (Value.int k)).toArray e)
      exact ⟨hb2.os, hb2.tape, hb2.output, hb2.size, fun i hi _ => hb2.block i hi, .inr fun b hb => by simp [Value.ownBlock] at hb; omega⟩
  rcases h with ⟨rfl, rfl⟩ | ⟨g, c, sp, rfl, hbg, hlc, hcm, hW⟩
  · have hr := run_append_nil (P := P) (w.alloc (.cells #[.int k x] e)) t ty e i _ ht hi hz ⟨w.heap.size, 0, none⟩ 1 1 [.int k x] hnl hnews (by omega) (by omega) (Nat.le_trans (hb48 1 (by omega)) (by omega))
    have hge := grownCap_ge (w.alloc (.cells #[.int k x] e)) 1 0 e
    have hcm : grownCap (w.alloc (.cells #[.int k x] e)) 1 0 e ≤ maxLen := grownCap_le_maxLen _ 1 0 e (by unfold maxLen; omega)
    generalize grownCap (w.alloc (.cells #[.int k x] e)) 1 0 e = cap at hr hge hcm
    rw [zeros_ints] at hr
    have hcs : ([.int k x] : List Value).toArray ++ ((List.replicate (cap - 1) (0 : Int)).map (Value.int k)).toArray = (([x] ++ List.replicate (cap - ([x] : List Int).length) 0).map (Value.int k)).toArray := by
      apply Array.ext'; simp
    rw [hcs] at hr
    obtain ⟨h1, h2⟩ := hnew (cap := cap) (l := [x]) (W := (w.alloc (.cells #[.int k x] e)).drew) (below_drewN bW 1) (by rw [← hWs]; exact Nat.le_refl _) hge hcm (by simpa using hx) rfl rfl
    exact ⟨_, _, hr, h1, h2⟩
  · have hgw : g < w.heap.size := hW.lt
    have hWW : Whole k e (w.alloc (.cells #[.int k x] e)) g (xs ++ sp) := hW.alloc _
    have hc2 := hlc
    rw [List.length_append] at hc2
    rcases Nat.lt_or_ge xs.length c with hroom | hroom
    · have hfit : 0 + xs.length * 1 + ([.int k x] : List Value).length ≤ ((xs ++ sp).map (Value.int k)).length := by simp; omega
      have hr := run_append_room_cells (P := P) (w.alloc (.cells #[.int k x] e)) t ty e i ht hi g 0 xs.length c ⟨w.heap.size, 0, none⟩ 1 1 [.int k x] hnl hnews hone (by omega)
        (fun j hj => by
          rw [cell_of_row _ g _ _ e (0, 0) hWW.1, List.getElem?_toArray, hs, List.getElem?_eq_getElem (by simp at hj ⊢; omega)]; rfl) (fun j hj => by simp [World.frozen?, hWW.1])
      rw [hs, setCells_rowJ (P := P) hWW.1 hfit hone] at hr
      have hcs : splice ((xs ++ sp).map (Value.int k)) (0 + xs.length * 1) [.int k x] = (((xs ++ [x]) ++ sp.drop 1).map (Value.int k)) := by
        unfold splice
        simp [List.drop_append]
      rw [hcs] at hr
      refine ⟨_, _, hr, .inr ⟨g, c, sp.drop 1, by simp, hbg, by simp; omega, hcm, hWW.setRow fun y hy => ?_⟩, grew_row bW _⟩
      rcases List.mem_append.1 hy with h1 | h1
      · exact hwf y h1
      · exact hW.2 y (List.mem_append_right _ (List.mem_of_mem_drop h1))
    · obtain rfl : c = xs.length := by omega
      have hsp : sp = [] := List.eq_nil_of_length_eq_zero (by omega)
      subst hsp
      rw [List.append_nil] at hWW
      have hr := run_append_grow (P := P) (w.alloc (.cells #[.int k x] e)) t ty e i _ ht hi hz ⟨g, 0, none⟩ xs.length xs.length (xs.map (Value.int k)) (by rw [List.length_map, hs, Nat.mul_one]) (fun j v hj => by
          have e1 : (⟨g, 0, none⟩ : Addr).add j = ⟨g, j, none⟩ := by unfold Addr.add; split <;> simp_all
          rw [e1, cell_of_row _ g _ _ e (0, 0) hWW.1, List.getElem?_toArray]; exact hj) ⟨w.heap.size, 0, none⟩ 1 1 [.int k x] hnl hnews (by omega) (by omega) (growslice_fits (by omega) (hb48 _ hn))
      have hge := grownCap_ge (w.alloc (.cells #[.int k x] e)) (xs.length + 1) xs.length e
      have hcm2 : grownCap (w.alloc (.cells #[.int k x] e)) (xs.length + 1) xs.length e ≤ maxLen := grownCap_le_maxLen _ (xs.length + 1) xs.length e (by unfold maxLen; omega)
      generalize grownCap (w.alloc (.cells #[.int k x] e)) (xs.length + 1) xs.length e = cap at hr hge hcm2
      rw [zeros_ints] at hr
      have hll : (xs ++ [x]).length = xs.length + 1 := by simp
      have hcs : (xs.map (Value.int k)).toArray ++ ([.int k x] : List Value).toArray ++ ((List.replicate (cap - (xs.length + 1)) (0 : Int)).map (Value.int k)).toArray = (((xs ++ [x]) ++ List.replicate (cap - (xs ++ [x]).length) 0).map (Value.int k)).toArray := by
        apply Array.ext'; simp
      rw [hcs] at hr
      obtain ⟨h1, h2⟩ := hnew (cap := cap) (l := xs ++ [x]) (W := (w.alloc (.cells #[.int k x] e)).drew) (below_drewN bW 1) (by rw [← hWs]; exact Nat.le_refl _) (by rw [hll]; exact hge) hcm2 hwf hll rfl
      rw [hll] at h1 h2 hr
      exact ⟨_, _, hr, h1, h2⟩
/-- 'append(v, src...)'. -/
theorem OwnF.catF {P : Program} {t ty : TypeId} (h : OwnF k e w base v xs) (ht : P.underlying t = some (.slice e)) {bytes : Nat} (hinfo : (P.info? e).map (fun i => (i.zero, i.size, i.bytes)) = some (some (.int k 0), 1, bytes))
    (hb8 : bytes ≤ 8) {A : Option Addr} {m c B : Nat} {ys : List Int} (ha : Arr k w B A m ys) (hn : xs.length + m ≤ 1073741824) (hbase : base ≤ w.heap.size) :
    ∃ v' w', Sem.run P (Builtin.append_ #[t, t] ty #[v, .slice A m c]) w = .ok v' w' ∧ OwnF k e w' base v' (xs ++ ys) ∧ Grew w v w' v' := by
  rcases Nat.eq_zero_or_pos m with h0 | h0
  · subst h0
    have hy : ys = [] := List.eq_nil_of_length_eq_zero ha.1
    subst hy
    obtain ⟨i, hi, hz, hs, hby⟩ := info_parts hinfo
    refine ⟨v, w, ?_, by simpa using h, Grew.refl _ _⟩
    rcases A with _ | ad
    · rcases h.own.1.2 with ⟨rfl, h0⟩ | ⟨g, cap, cur, rfl, _, _, hnc, _⟩
      · simp [Builtin.append_, run_underlying ht, sizeOf, typeInfo, hi, Builtin.lenOf, Builtin.firstCells]
      · simp [Builtin.append_, run_underlying ht, sizeOf, typeInfo, hi, Builtin.lenOf, Builtin.firstCells, hnc, storeCells]
    · obtain ⟨A0, c0, rfl, hc0, _⟩ := h.arr
      exact run_append_nothing (P := P) w t t ty e i ht hi A0 xs.length c0 hc0 (.slice (some ad) 0 c) (Src.ofSlice _ ht ad 0 c [] (by simp) (by intro j v hj; simp at hj) (by intro u hu; cases hu))
  obtain ⟨i, hi, hz, hs, hby⟩ := info_parts hinfo
  obtain ⟨b0, off0, rfl, _, hcs⟩ := ha.2.2 h0
  have hml := ha.1
  have hnews : ∀ j u, (ys.map (Value.int k))[j]? = some u → w.cell? ((⟨b0, off0, none⟩ : Addr).add j) = some u := by
    intro j u hj
    have hjl : j < ys.length := by
      have := (List.getElem?_eq_some_iff.1 hj).1
      simpa using this
    have e1 : (⟨b0, off0, none⟩ : Addr).add j = ⟨b0, off0 + j, none⟩ := by unfold Addr.add; split <;> simp_all
    rw [e1, hcs j (by omega), ← hj]
    simp [nth, List.getElem?_eq_getElem hjl]
  have hone : ∀ u ∈ ys.map (Value.int k), u.oneCell' = true := fun u hu => by obtain ⟨z, _, rfl⟩ := List.mem_map.1 hu; rfl
  have hnl : (ys.map (Value.int k)).length = m * i.size := by rw [hs, List.length_map, hml, Nat.mul_one]
  have hb48 : ∀ q, q ≤ 1073741824 → q * i.bytes ≤ 140737488355328 := fun q hq => by
    rw [hby]
    calc q * bytes ≤ q * 8 := Nat.mul_le_mul_left _ hb8
      _ ≤ 140737488355328 := by omega
  have hwf : ∀ y ∈ xs ++ ys, (Lit.int k y).wf = true := fun y hy => by
    rcases List.mem_append.1 hy with h1 | h1
    · exact h.own.2 y h1
    · exact ha.2.1 y h1
  have hz0 : (Lit.int k 0).wf = true := by cases k <;> decide
  have hnew : ∀ {cap : Nat} {l : List Int} {W : World}, Below w.heap.size w W → w.heap.size ≤ W.heap.size → l.length ≤ cap → cap ≤ maxLen → (∀ y ∈ l, (Lit.int k y).wf = true) → l = xs ++ ys →
      OwnF k e (W.alloc (.cells ((l ++ List.replicate (cap - l.length) 0).map (Value.int k)).toArray e)) base (.slice (some ⟨W.heap.size, 0, none⟩) l.length cap) (xs ++ ys) ∧ Grew w v (W.alloc (.cells ((l ++ List.replicate (cap - l.length) 0).map (Value.int k)).toArray e)) (.slice (some ⟨W.heap.size, 0, none⟩) l.length cap) := by
    rintro cap l W hb hs1 hlc hcm hlw rfl
    refine ⟨.inr ⟨_, cap, List.replicate (cap - (xs ++ ys).length) 0, rfl, by omega, by rw [List.length_append, List.length_replicate]; omega, hcm, whole_new k e W _ fun y hy => ?_⟩, ?_⟩
    · rcases List.mem_append.1 hy with h1 | h1
      · exact hlw y h1
      · rw [List.eq_of_mem_replicate h1]; exact hz0
    · have hb2 := hb.alloc (show w.heap.size ≤ W.heap.size by omega) (.cells (((xs ++ ys) ++ List.replicate (cap - (xs ++ ys).length) 0).map (Value.int k)).toArray e)
      exact ⟨hb2.os, hb2.tape, hb2.output, hb2.size, fun i hi _ => hb2.block i hi, .inr fun b hb => by simp [Value.ownBlock] at hb; omega⟩
  rcases h with ⟨rfl, rfl⟩ | ⟨g, c2, sp, rfl, hbg, hlc, hcm, hW⟩
  · have hn' : m ≤ 1073741824 := by simpa using hn
    have hr := run_append_nil (P := P) w t ty e i _ ht hi hz ⟨b0, off0, none⟩ m c (ys.map (Value.int k)) hnl hnews h0 (by omega) (Nat.le_trans (hb48 m hn') (by omega))
    have hge := grownCap_ge w m 0 e
    have hcm : grownCap w m 0 e ≤ maxLen := grownCap_le_maxLen _ m 0 e (by unfold maxLen; omega)
    generalize grownCap w m 0 e = cap at hr hge hcm
    rw [zeros_ints] at hr
    have hcs : (ys.map (Value.int k)).toArray ++ ((List.replicate (cap - m) (0 : Int)).map (Value.int k)).toArray = ((ys ++ List.replicate (cap - ys.length) 0).map (Value.int k)).toArray := by
      apply Array.ext'; simp [hml]
    rw [hcs] at hr
    obtain ⟨h1, h2⟩ := hnew (cap := cap) (l := ys) (W := w.drew) (below_drewN (Below.refl _ _) 1) (Nat.le_refl _) (by omega) hcm (by simpa using hwf) rfl
    subst hml
    exact ⟨_, _, hr, h1, h2⟩
  · have hgw : g < w.heap.size := hW.lt
    have hc2 := hlc
    rw [List.length_append] at hc2
    rcases Nat.lt_or_ge c2 (xs.length + m) with hroom | hroom
    · have hr := run_append_grow (P := P) w t ty e i _ ht hi hz ⟨g, 0, none⟩ xs.length c2 (xs.map (Value.int k)) (by rw [List.length_map, hs, Nat.mul_one]) (fun j v hj => by
          have hjl : j < xs.length := by
            have := (List.getElem?_eq_some_iff.1 hj).1
            simpa using this
          have e1 : (⟨g, 0, none⟩ : Addr).add j = ⟨g, j, none⟩ := by unfold Addr.add; split <;> simp_all
          rw [e1, cell_of_row _ g _ _ e (0, 0) hW.1, List.getElem?_toArray, List.map_append, List.getElem?_append_left (by simpa using hjl)]; exact hj) ⟨b0, off0, none⟩ m c (ys.map (Value.int k)) hnl hnews (by omega) (by omega) (growslice_fits (by omega) (hb48 _ hn))
      have hge := grownCap_ge w (xs.length + m) c2 e
      have hcm2 : grownCap w (xs.length + m) c2 e ≤ maxLen := grownCap_le_maxLen _ (xs.length + m) c2 e (by unfold maxLen; omega)
      generalize grownCap w (xs.length + m) c2 e = cap at hr hge hcm2
      rw [zeros_ints] at hr
      have hll : (xs ++ ys).length = xs.length + m := by rw [List.length_append, hml]
      have hcs : (xs.map (Value.int k)).toArray ++ (ys.map (Value.int k)).toArray ++ ((List.replicate (cap - (xs.length + m)) (0 : Int)).map (Value.int k)).toArray = (((xs ++ ys) ++ List.replicate (cap - (xs ++ ys).length) 0).map (Value.int k)).toArray := by
        rw [hll]; apply Array.ext'; simp
      rw [hcs] at hr
      obtain ⟨h1, h2⟩ := hnew (cap := cap) (l := xs ++ ys) (W := w.drew) (below_drewN (Below.refl _ _) 1) (Nat.le_refl _) (by rw [hll]; exact hge) hcm2 hwf rfl
      rw [hll] at h1 h2 hr
      exact ⟨_, _, hr, h1, h2⟩
    · have hfit : 0 + xs.length * 1 + (ys.map (Value.int k)).length ≤ ((xs ++ sp).map (Value.int k)).length := by simp; omega
      have hr := run_append_room_cells (P := P) w t ty e i ht hi g 0 xs.length c2 ⟨b0, off0, none⟩ m c (ys.map (Value.int k)) hnl hnews hone (by omega)
        (fun j hj => by
          rw [cell_of_row _ g _ _ e (0, 0) hW.1, List.getElem?_toArray, hs, List.getElem?_eq_getElem (by simp at hj ⊢; omega)]; rfl) (fun j hj => by simp [World.frozen?, hW.1])
      rw [hs, setCells_rowJ (P := P) hW.1 hfit hone] at hr
      have hcs : splice ((xs ++ sp).map (Value.int k)) (0 + xs.length * 1) (ys.map (Value.int k)) = (((xs ++ ys) ++ sp.drop m).map (Value.int k)) := by
        unfold splice
        simp [List.drop_append, hml]
      rw [hcs] at hr
      refine ⟨_, _, hr, .inr ⟨g, c2, sp.drop m, by rw [List.length_append, hml], hbg, by simp; omega, hcm, hW.setRow fun y hy => ?_⟩, grew_row (Below.refl _ w) _⟩
      rcases List.mem_append.1 hy with h1 | h1
      · exact hwf y h1
      · exact hW.2 y (List.mem_append_right _ (List.mem_of_mem_drop h1))
/-- '.. and what lies below stays. -/
theorem OwnF.pushB {P : Program} {t ty : TypeId} (h : OwnF k e w base v xs) (ht : P.underlying t = some (.slice e)) {bytes : Nat} (hinfo : (P.info? e).map (fun i => (i.zero, i.size, i.bytes)) = some (some (.int k 0), 1, bytes))
    (hb8 : bytes ≤ 8) {x : Int} (hx : (Lit.int k x).wf = true) (hn : xs.length + 1 ≤ 1073741824) (hbase : base ≤ w.heap.size) :
    ∃ v' w', Sem.run P (Builtin.append_ #[t, t] ty #[v, .slice (some ⟨w.heap.size, 0, none⟩) 1 1]) (w.alloc (.cells #[.int k x] e)) = .ok v' w' ∧ OwnF k e w' base v' (xs ++ [x]) ∧ Below base w w' := by
  obtain ⟨v', w', h1, h2, h3⟩ := h.pushF (ty := ty) ht hinfo hb8 hx hn hbase
  exact ⟨v', w', h1, h2, h3.below hbase h.own.row⟩
theorem OwnF.keepB (h : OwnF k e w base v xs) (hb : ∀ i, base ≤ i → i < w.heap.size → w'.heap[i]? = w.heap[i]?) : OwnF k e w' base v xs := by
  rcases h with h | ⟨g, c, sp, h1, h2, h3, h4, hW⟩
  · exact .inl h
  · exact .inr ⟨g, c, sp, h1, h2, h3, h4, (hb g h2 hW.lt).trans hW.1, hW.2⟩
theorem SpareI.keepB {A : Option Addr} {c : Nat} (h : SpareI k e base w A c) (hb : ∀ i, base ≤ i → i < w.heap.size → w'.heap[i]? = w.heap[i]?) : SpareI k e base w' A c := by
  rcases h with h | ⟨g, ys, h1, h2, h3, h4, hW⟩
  · exact .inl h
  · exact .inr ⟨g, ys, h1, h2, h3, h4, (hb g h2 hW.lt).trans hW.1, hW.2⟩
/-- A block of another type is written. -/
theorem SpareI.box {A : Option Addr} {c g : Nat} {t : TypeId} {cs : Array Value} (h : SpareI k e base w A c) (hB : Box w g t cs) (ht : t ≠ e) (j : Nat) (d : Value) : SpareI k e base (w.setCell ⟨g, j, none⟩ d) A c := by
  rcases h with h | ⟨g', ys, h1, h2, h3, h4, hW⟩
  · exact .inl h
  · refine .inr ⟨g', ys, h1, h2, h3, h4, ?_, hW.2⟩
    have hne : g ≠ g' := by
      rintro rfl
      have h5 := hB.symm.trans hW.1
      injection h5 with h5
      injection h5 with _ h6
      exact ht h6
    rw [← hW.1]
    show (w.heap.modify g _)[g']? = _
    rw [Array.getElem?_modify, if_neg hne]
end
end Go.Proofs.Ytjefbekdjgmmbaa
