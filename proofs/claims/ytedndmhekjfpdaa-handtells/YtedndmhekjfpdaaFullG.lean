/-
  A slice of structs whose row is the call's own and known up to its capacity ('FullG'); the append of slices.Clone; rows of integers (pins): appends, splices.
-/
import Derived.Test.YtedndmhekjfpdaaRoomG
import Derived.Deep.Upon
import Derived.Laws.CopyOwn
namespace Go.Proofs.Ytedndmhekjfpdaa
open Go.RowKit

/-- A slice whose row is the call's own, known up to its capacity. -/
def FullG {α : Type} (enc : α → List Value) (size : Nat) (e : TypeId) (w : World) (base : Nat) (A : Option Addr) (n c : Nat) (l : List α) : Prop :=
  l.length = n ∧ n ≤ c ∧ c ≤ maxLen ∧ OwnG enc size e w base (.slice A n c) l ∧ ∃ sp, (l ++ sp).length = c ∧ OwnG enc size e w base (.slice A c c) (l ++ sp)
section
variable {α : Type} {enc : α → List Value} {size : Nat} {e : TypeId} {w w' : World} {base n c : Nat} {A : Option Addr} {l : List α}
theorem FullG.nil : FullG enc size e w base none 0 0 ([] : List α) := ⟨rfl, Nat.le_refl _, Nat.zero_le _, OwnG.nil, [], rfl, OwnG.nil⟩
theorem FullG.below (h : FullG enc size e w base A n c l) (hb : Below w.heap.size w w') : FullG enc size e w' base A n c l := by
  obtain ⟨h1, h2, h3, h4, sp, h5, h6⟩ := h
  exact ⟨h1, h2, h3, h4.below hb, sp, h5, h6.below hb⟩
theorem OwnG.lessH {v : Value} {base' : Nat} (h : OwnG enc size e w base v l) (hb : base' ≤ base) : OwnG enc size e w base' v l :=
  ⟨h.1, h.2.imp id fun ⟨g, cap, cur, h1, h2, r⟩ => ⟨g, cap, cur, h1, Nat.le_trans hb h2, r⟩⟩
theorem FullG.less {base' : Nat} (h : FullG enc size e w base A n c l) (hb : base' ≤ base) : FullG enc size e w base' A n c l := by
  obtain ⟨h1, h2, h3, h4, sp, h5, h6⟩ := h
  exact ⟨h1, h2, h3, h4.lessH hb, sp, h5, h6.lessH hb⟩
theorem FullG.of (hs : ∀ a, (enc a).length = size) {g : Nat} {sp : List α} (hl : l.length = n) (hc : (l ++ sp).length = c) (hm : c ≤ maxLen) (hb : base ≤ g) (hg : w.heap[g]? = some (.cells ((l ++ sp).flatMap enc).toArray e (0, 0))) : FullG enc size e w base (some ⟨g, 0, none⟩) n c l := by
  have hle : n ≤ c := by rw [List.length_append] at hc; omega
  have h1 : OwnG enc size e w base (.slice (some ⟨g, 0, none⟩) n c) l := by
    refine ⟨flat_length hs l, .inr ⟨g, c, ((l ++ sp).flatMap enc).toArray, by rw [hl], hb, hg, by rw [hl]; exact hle, hm, by rw [List.size_toArray, flat_length hs, hc], ?_⟩⟩
    rw [List.toList_toArray, List.flatMap_append, List.take_left' (by rw [flat_length hs])]
  refine ⟨hl, hle, hm, h1, sp, hc, flat_length hs _, .inr ⟨g, c, ((l ++ sp).flatMap enc).toArray, by rw [hc], hb, hg, by rw [hc]; exact Nat.le_refl _, hm, by rw [List.size_toArray, flat_length hs, hc], ?_⟩⟩
  rw [List.toList_toArray, List.take_of_length_le (by rw [flat_length hs]; exact Nat.le_refl _)]
end

theorem zero_flat {α : Type} [Inhabited α] {enc : α → List Value} {size : Nat} (hs : ∀ a, (enc a).length = size) (h0 : 0 < size) {z : Array Value} (x : α) (hx : enc x = z.toList) (q : Nat) : Builtin.zeroCells z q = ((List.replicate q x).flatMap enc).toArray := by
  have hzs : z.size = size := by rw [← hs x, hx]; simp
  apply Array.ext
  · rw [size_zeroCells, hzs, List.size_toArray, flat_length hs, List.length_replicate]
  · intro i h1 h2
    have hi : i < q * size := by rwa [size_zeroCells, hzs] at h1
    have d1 : i / size < q := Nat.div_lt_of_lt_mul (by rw [Nat.mul_comm]; exact hi)
    have d2 := Nat.mod_lt i h0
    have d3 := Nat.div_add_mod' i size
    have h3 := flat_at hs (List.replicate q x) (i / size) (i % size) (by simpa using d1) d2
    rw [d3, nthG_get _ _ (by simpa using d1), List.getElem_replicate, hx, List.getElem?_eq_getElem (by rw [List.size_toArray] at h2; exact h2), List.getElem?_eq_getElem (by simp [hzs]; exact d2)] at h3
    injection h3 with h3
    refine Eq.trans ?_ h3.symm
    simp [Builtin.zeroCells, hzs, d2]
/-- The append of slices.Clone, of whatever length. -/
theorem run_clone_full {α : Type} [Inhabited α] {enc : α → List Value} {size : Nat} (hs : ∀ a, (enc a).length = size) (hsz : 0 < size) {P : Program} {t ty e : TypeId} (ht : P.underlying t = some (.slice e)) {z : Value} {bytes : Nat}
    (hinfo : (P.info? e).map (fun i => (i.zero, i.size, i.bytes)) = some (some z, size, bytes)) (hb0 : 0 < bytes) {x0 : α} (hx0 : enc x0 = z.cells.toList) {w : World} {ad : Addr} {n c : Nat} {l : List α} (ha : ArrG enc size w w.heap.size (some ad) n l) (hn : n * bytes ≤ 281474976710656) :
    ∃ A' c' w', Sem.run P (Builtin.append_ #[t, t] ty #[.slice (some ⟨w.heap.size, 0, none⟩) 0 0, .slice (some ad) n c]) (w.alloc (.cells #[] e)) = .ok (.slice A' n c') w' ∧ FullG enc size e w' w.heap.size A' n c' l ∧ Below w.heap.size w w' := by
  have hb1 : Below w.heap.size w (w.alloc (.cells #[] e)) := (Below.refl _ _).alloc (Nat.le_refl _) _
  obtain ⟨i, hi, hz, hs', hby⟩ := info_parts hinfo
  have hl := ha.1
  rcases Nat.eq_zero_or_pos n with h0 | h0
  · subst h0
    have h1 : l = [] := List.eq_nil_of_length_eq_zero ha.1
    subst h1
    have hr := run_append_nothing (P := P) (w.alloc (.cells #[] e)) t t ty e i ht hi (some ⟨w.heap.size, 0, none⟩) 0 0 (Nat.le_refl _) (.slice (some ad) 0 c) (Src.ofSlice _ ht ad 0 c [] (by simp) (by intro j v hj; simp at hj) (by intro u hu; cases hu))
    exact ⟨_, _, _, hr, FullG.of hs (sp := []) rfl rfl (Nat.zero_le _) (Nat.le_refl _) (heap_alloc_new w _), hb1⟩
  · have ha1 := ha.below hb1 (Nat.le_refl _)
    have hn' : n ≤ 281474976710656 := Nat.le_trans (Nat.le_mul_of_pos_right n hb0) hn
    have hcell : ∀ j u, (l.flatMap enc)[j]? = some u → (w.alloc (.cells #[] e)).cell? (ad.add j) = some u := by
      intro j u hj
      have hjl : j < l.length * size := by
        have := (List.getElem?_eq_some_iff.1 hj).1
        rwa [flat_length hs] at this
      obtain ⟨b, off, h1, _, hc⟩ := ha1.2 h0
      injection h1 with h1
      subst h1
      have e1 : (⟨b, off, none⟩ : Addr).add j = ⟨b, off + j, none⟩ := by unfold Addr.add; split <;> simp_all
      have d1 : j / size < l.length := Nat.div_lt_of_lt_mul (by rw [Nat.mul_comm]; exact hjl)
      have d2 : j % size < size := Nat.mod_lt _ hsz
      have d3 : j / size * size + j % size = j := Nat.div_add_mod' j size
      have h2 := hc (j / size) (by omega) (j % size) d2
      have h3 := flat_at hs l (j / size) (j % size) d1 d2
      rw [d3] at h3
      rw [Nat.add_assoc, d3] at h2
      rw [e1, h2, ← h3, hj]
    have hr := run_append_grow (P := P) (w.alloc (.cells #[] e)) t ty e i z ht hi hz ⟨w.heap.size, 0, none⟩ 0 0 [] (by simp) (by intro j v hj; simp at hj) ad n c (l.flatMap enc) (by rw [flat_length hs, hs', hl]) hcell
      (by omega) (by omega) (by rw [Nat.zero_add, nextslicecap_zero h0, hby]; exact hn)
    simp only [Nat.zero_add] at hr
    have hge := grownCap_ge (w.alloc (.cells #[] e)) n 0 e
    have hcm : grownCap (w.alloc (.cells #[] e)) n 0 e ≤ maxLen := grownCap_le_maxLen _ n 0 e (by unfold maxLen; omega)
    generalize grownCap (w.alloc (.cells #[] e)) n 0 e = cap at hr hge hcm
    rw [zero_flat hs hsz x0 hx0] at hr
    have hcs : ([] : List Value).toArray ++ (l.flatMap enc).toArray ++ ((List.replicate (cap - n) x0).flatMap enc).toArray = ((l ++ List.replicate (cap - n) x0).flatMap enc).toArray := by
      apply Array.ext'; simp
    rw [hcs] at hr
    refine ⟨_, _, _, hr, FullG.of hs (sp := List.replicate (cap - n) x0) hl (by simp; omega) hcm (by simp) (heap_alloc_new (w.alloc (.cells #[] e)).drew _), ?_⟩
    have : Below w.heap.size w (w.alloc (.cells #[] e)).drew := below_drewN hb1 1
    exact this.alloc this.size _


/-- All cells are integers. -/
def allI (cur : List Value) : Prop := ∀ v ∈ cur, ∃ z, v = .int .i64 z
theorem allI_flat (xs : List (Int × Int)) : allI (xs.flatMap runC) := by
  intro v hv
  obtain ⟨x, _, hx⟩ := List.mem_flatMap.1 hv
  simp [runC] at hx
  rcases hx with rfl | rfl
  · exact ⟨_, rfl⟩
  · exact ⟨_, rfl⟩
theorem allI_splice {L cs : List Value} {o : Nat} (h : allI L) (h2 : allI cs) : allI (splice L o cs) := by
  intro v hv
  rcases mem_splice hv with h3 | h3
  · exact h v h3
  · exact h2 v h3
theorem pairs_of : ∀ {c : Nat} {cur : List Value}, cur.length = c * 2 → allI cur → ∃ xs : List (Int × Int), xs.length = c ∧ cur = xs.flatMap runC
  | 0, cur, h, _ => ⟨[], rfl, List.eq_nil_of_length_eq_zero (by omega)⟩
  | c + 1, cur, h, hA => by
    match cur, h with
    | [], h => simp at h
    | [_], h => simp at h; omega
    | u :: v :: r, h =>
      obtain ⟨x, rfl⟩ := hA u (by simp)
      obtain ⟨y, rfl⟩ := hA v (by simp)
      obtain ⟨xs, hl, hr⟩ := pairs_of (c := c) (cur := r) (by simp at h; omega) fun u hu => hA u (by simp [hu])
      exact ⟨(x, y) :: xs, by simp [hl], by rw [List.flatMap_cons, ← hr]; rfl⟩
section
variable {e : TypeId} {w : World} {base n c : Nat} {A : Option Addr} {l : List (Int × Int)}
theorem FullG.to_rowI (h : FullG runC 2 e w base A n c l) (hA : A ≠ none) :
    ∃ g cur, A = some ⟨g, 0, none⟩ ∧ base ≤ g ∧ w.heap[g]? = some (.cells (List.toArray cur) e (0, 0)) ∧ cur.length = c * 2 ∧ cur.take (n * 2) = l.flatMap runC ∧ allI cur := by
  obtain ⟨h1, h2, h3, h4, sp, h5, h6⟩ := h
  rcases h6.2 with ⟨hv, _⟩ | ⟨g, cap, cur, hv, hg, hh, hc, hcm, hsz, ht⟩
  · injection hv with hv; exact absurd hv hA
  · injection hv with e1 e2 e3
    rw [h5] at ht
    rw [← e3] at hsz
    have hcur : cur.toList = (l ++ sp).flatMap runC := by rw [← ht, List.take_of_length_le (by simp [hsz])]
    refine ⟨g, cur.toList, e1, hg, hh, by simpa using hsz, ?_, by rw [hcur]; exact allI_flat _⟩
    rw [hcur, List.flatMap_append, List.take_left' (by rw [flat_length runC_len, h1])]
theorem FullG.of_rowI {g : Nat} {cur : List Value} (hl : l.length = n) (hg : w.heap[g]? = some (.cells cur.toArray e (0, 0))) (hb : base ≤ g) (hn : n ≤ c) (hc : c ≤ maxLen) (hz : cur.length = c * 2) (ht : cur.take (n * 2) = l.flatMap runC) (hA : allI cur) :
    FullG runC 2 e w base (some ⟨g, 0, none⟩) n c l := by
  obtain ⟨sp, hs, hd⟩ := pairs_of (c := c - n) (cur := cur.drop (n * 2)) (by rw [List.length_drop, hz]; omega) fun v hv => hA v (List.mem_of_mem_drop hv)
  have hcur : cur = (l ++ sp).flatMap runC := by rw [List.flatMap_append, ← hd, ← ht, List.take_append_drop]
  exact FullG.of runC_len (sp := sp) hl (by rw [List.length_append]; omega) hc hb (by rw [← hcur]; exact hg)
theorem FullG.own (h : FullG runC 2 e w base A n c l) : OwnG runC 2 e w base (.slice A n c) l := h.2.2.2.1
theorem FullG.none_zero (h : FullG runC 2 e w base none n c l) : n = 0 ∧ c = 0 ∧ l = [] := by
  obtain ⟨h1, h2, h3, h4, sp, h5, h6⟩ := h
  rcases h4.2 with ⟨hv, h0⟩ | ⟨g, cap, cur, hv, _⟩
  · injection hv with _ e2 e3
    exact ⟨e2, e3, List.eq_nil_of_length_eq_zero h0⟩
  · injection hv with hv; cases hv
theorem setCells_rowG {P : Program} {w : World} {g o : Nat} {cur : List Value} {t : TypeId} {vs : List Value} (hg : w.heap[g]? = some (.cells cur.toArray t (0, 0))) (hfit : o + vs.length ≤ cur.length) (h1 : ∀ v ∈ vs, v.oneCell' = true) :
    w.setCells g o vs = w.setRow g (splice cur o vs).toArray := by
  have hst := run_storeCells_at P g o t vs 0 cur.toArray w hg (by simpa using hfit) h1
  have hs2 := run_storeCells_cells (P := P) g o vs 0 w (fun j hj => by
      rw [cell_of_row w g _ _ t (0, 0) hg]
      simp
      omega) (fun j hj => by simp [World.frozen?, hg]) h1
  rw [hst] at hs2
  injection hs2 with _ hs2
  rw [Nat.add_zero] at hs2
  rw [← hs2]
  simp [splice]
/-- 'append(x, y)' of one pin. -/
theorem FullG.push1 {P : Program} {t ty : TypeId} (ht : P.underlying t = some (.slice e)) (hinfo : (P.info? e).map (fun i => (i.zero, i.size, i.bytes)) = some (some (.agg #[.int .i64 0, .int .i64 0]), 2, 16)) (h : FullG runC 2 e w base A n c l) (hn : n ≤ 15) {vb : Nat} {a b : Int} (hv : Box w vb e #[.int .i64 a, .int .i64 b]) (hb : base ≤ w.heap.size) :
    ∃ A' c' w', Sem.run P (Builtin.append_ #[t, t] ty #[.slice A n c, .slice (some ⟨vb, 0, none⟩) 1 1]) w = .ok (.slice A' (n + 1) c') w' ∧ FullG runC 2 e w' base A' (n + 1) c' (l ++ [(a, b)]) ∧ Below base w w' := by
  obtain ⟨i, hi, hz, hs, hby⟩ := info_parts hinfo
  have hl := h.1
  have hnews : ∀ j u, (runC (a, b))[j]? = some u → w.cell? ((⟨vb, 0, none⟩ : Addr).add j) = some u := fun j u hj => by
    have e1 : (⟨vb, 0, none⟩ : Addr).add j = ⟨vb, j, none⟩ := by unfold Addr.add; split <;> simp_all
    rw [e1, hv.cell j]
    simpa [runC] using hj
  have hzf : ∀ q, Builtin.zeroCells (Value.agg #[.int .i64 0, .int .i64 0]).cells q = ((List.replicate q ((0, 0) : Int × Int)).flatMap runC).toArray := fun q => zero_flat runC_len (by omega) (0, 0) rfl q
  have hnl : (runC (a, b)).length = 1 * i.size := by rw [hs]; rfl
  rcases A with _ | ad
  · obtain ⟨rfl, rfl, rfl⟩ := h.none_zero
    have hr := run_append_nil (P := P) w t ty e i _ ht hi hz ⟨vb, 0, none⟩ 1 1 (runC (a, b)) hnl hnews (by omega) (by omega) (by rw [hby]; omega)
    have hge := grownCap_ge w 1 0 e
    have hcm : grownCap w 1 0 e ≤ maxLen := grownCap_le_maxLen _ 1 0 e (by unfold maxLen; omega)
    generalize grownCap w 1 0 e = cap at hr hge hcm
    rw [hzf] at hr
    have hcs : (runC (a, b)).toArray ++ ((List.replicate (cap - 1) ((0, 0) : Int × Int)).flatMap runC).toArray = (([] ++ [(a, b)] ++ List.replicate (cap - 1) ((0, 0) : Int × Int)).flatMap runC).toArray := by
      apply Array.ext'; simp
    rw [hcs] at hr
    exact ⟨_, _, _, hr, FullG.of runC_len (sp := List.replicate (cap - 1) (0, 0)) rfl (by simp; omega) hcm hb (heap_alloc_new w.drew _), (below_drewN (Below.refl base w) 1).alloc hb _⟩
  · obtain ⟨g, cur, e1, hbg, hg, hzc, htk, hAI⟩ := h.to_rowI (by simp)
    injection e1 with e1
    subst e1
    have hnc := h.2.1
    have hcm := h.2.2.1
    rcases Nat.lt_or_ge n c with hroom | hroom
    · have hfit : 0 + n * 2 + (runC (a, b)).length ≤ cur.length := by rw [hzc]; show _ + 2 ≤ _; omega
      have hr := run_append_room_cells (P := P) w t ty e i ht hi g 0 n c ⟨vb, 0, none⟩ 1 1 (runC (a, b)) hnl hnews (runC_one _) (by omega)
        (fun j hj => by rw [cell_of_row w g _ _ e (0, 0) hg, List.getElem?_toArray, hs, List.getElem?_eq_getElem (by omega)]; rfl) (fun j hj => by simp [World.frozen?, hg])
      rw [hs, setCells_rowG (P := P) hg hfit (runC_one _)] at hr
      refine ⟨_, _, _, hr, FullG.of_rowI (cur := splice cur (0 + n * 2) (runC (a, b))) (by simp [hl]) (setRow_heap _ g _ _ _ _ hg) hbg (by omega) hcm (by rw [length_splice _ _ _ hfit, hzc]) ?_ (allI_splice hAI ?_), below_setRow (Below.refl _ w) hbg _⟩
      · have h3 : (splice cur (0 + n * 2) (runC (a, b))).take (0 + n * 2 + (runC (a, b)).length) = cur.take (0 + n * 2) ++ runC (a, b) := by
          unfold splice
          rw [← List.append_assoc, List.take_left' (by rw [List.length_append, List.length_take]; omega)]
        rw [Nat.zero_add, runC_len] at h3
        rw [Nat.zero_add, show (n + 1) * 2 = n * 2 + 2 by omega, h3, htk, List.flatMap_append]
        simp
      · have := allI_flat [(a, b)]
        simpa using this
    · obtain rfl : c = n := by omega
      have hcur : cur = l.flatMap runC := by rw [← htk, List.take_of_length_le (by omega)]
      have hr := run_append_grow (P := P) w t ty e i _ ht hi hz ⟨g, 0, none⟩ c c (l.flatMap runC) (by rw [flat_length runC_len, hs, hl]) (fun j v hj => by
          have e1 : (⟨g, 0, none⟩ : Addr).add j = ⟨g, j, none⟩ := by unfold Addr.add; split <;> simp_all
          rw [e1, cell_of_row w g _ _ e (0, 0) hg, List.getElem?_toArray, hcur]; exact hj) ⟨vb, 0, none⟩ 1 1 (runC (a, b)) hnl hnews (by omega) (by omega) (by rw [hby]; exact growslice_fits (by omega) (by omega))
      have hge := grownCap_ge w (c + 1) c e
      have hcm2 : grownCap w (c + 1) c e ≤ maxLen := grownCap_le_maxLen _ (c + 1) c e (by unfold maxLen; omega)
      generalize grownCap w (c + 1) c e = cap at hr hge hcm2
      rw [hzf] at hr
      have hcs : (l.flatMap runC).toArray ++ (runC (a, b)).toArray ++ ((List.replicate (cap - (c + 1)) ((0, 0) : Int × Int)).flatMap runC).toArray = ((l ++ [(a, b)] ++ List.replicate (cap - (c + 1)) ((0, 0) : Int × Int)).flatMap runC).toArray := by
        apply Array.ext'; simp
      rw [hcs] at hr
      exact ⟨_, _, _, hr, FullG.of runC_len (sp := List.replicate (cap - (c + 1)) (0, 0)) (by simp [hl]) (by simp [hl]; omega) hcm2 hb (heap_alloc_new w.drew _), (below_drewN (Below.refl base w) 1).alloc hb _⟩
end
end Go.Proofs.Ytedndmhekjfpdaa
