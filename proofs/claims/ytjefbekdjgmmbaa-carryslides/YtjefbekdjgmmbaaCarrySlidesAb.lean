/-
  Parts of the proof of CarrySlides: Rec.
-/
import Derived.OwnWalk
import Derived.Maps.AppendAt
import Derived.Laws.BytesArg
import Derived.WalkSmall
import Derived.Test.YtjefbekdjgmmbaaCarrySlidesAa
namespace Go.Proofs.Ytjefbekdjgmmbaa
open Go.RowKit
/-- The slice value 'v' owns a row (from block 'base' on) that begins with the numbers 'xs', and has just so many elements. -/
def Own (k : IntKind) (e : TypeId) (w : World) (base : Nat) (v : Value) (xs : List Int) : Prop :=
  w.ownsRow base e 1 v xs.length (xs.map (Value.int k)) ∧ ∀ x ∈ xs, (Lit.int k x).wf = true
/-- An append whose run is known, as a step of the walk. -/
theorem wpList_append_run {P : Program} {w : World} {ops : Array Oper} {rest : List Oper} {o : Oper} {a : Act} {Q : Exit → Act → World → Prop} (hgd : o.guard = none) (s x : Operand) (t : TypeId)
    (ho : o.op = .call { callee := .builtin .append, args := #[s, x], argTypes := #[t, t] }) {v src v' : Value} {w' : World} (hs : a.eval s = v) (hx : a.eval x = src)
    (hrun : Sem.run P (Builtin.append_ #[t, t] o.type #[v, src]) w = .ok v' w') (h : wpList P ops Q rest (a.put o.dst v') w') : wpList P ops Q (o :: rest) a w := by
  refine wpList_plain hgd fun K hK => ?_
  unfold Oper.wp execOp
  simp only [ho, resolve, invoke, builtin, Sem.run_bind, Sem.run_pure, Result.andThen_ok, List.map_toArray, List.map_cons, List.map_nil, hs, hx, hrun]
  exact hK _ _ h
section
variable {k : IntKind} {e : TypeId} {w w' : World} {base : Nat} {v : Value} {xs : List Int}
theorem Own.nil : Own k e w base (.slice none 0 0) [] := ⟨World.ownsRow_nil _ _ _ _, fun x hx => by cases hx⟩
/-- What is owned reads as the numbers. -/
theorem Own.arr (h : Own k e w base v xs) : ∃ A c, v = .slice A xs.length c ∧ xs.length ≤ c ∧ Arr k w w.heap.size A xs.length xs := by
  obtain ⟨⟨hl, h2⟩, hw⟩ := h
  rcases h2 with ⟨rfl, h0⟩ | ⟨g, cap, cur, rfl, hg, hh, hc, _, hs, ht⟩
  · have : xs = [] := List.eq_nil_of_length_eq_zero h0
    subst this
    exact ⟨none, 0, rfl, Nat.le_refl _, Arr.zero⟩
  · refine ⟨_, cap, rfl, hc, rfl, hw, fun _ => ⟨g, 0, rfl, ?_, fun j hj => ?_⟩⟩
    · rcases Nat.lt_or_ge g w.heap.size with h | h
      · exact h
      · rw [Array.getElem?_eq_none h] at hh; cases hh
    · rw [Nat.zero_add, cell_of_row w g j _ e (0, 0) hh]
      have h1 : (cur.toList.take (xs.length * 1))[j]? = some (.int k (nth xs j)) := by
        rw [ht]
        simp [nth, List.getElem?_map, List.getElem?_eq_getElem hj]
      rw [List.getElem?_take, if_pos (by omega)] at h1
      simpa using h1
/-- 'append(v, x)': the value lies in a new block of one cell. -/
theorem Own.push {P : Program} {t ty : TypeId} (h : Own k e w base v xs) (ht : P.underlying t = some (.slice e)) {bytes : Nat} (hinfo : (P.info? e).map (fun i => (i.zero, i.size, i.bytes)) = some (some (.int k 0), 1, bytes))
    (hb8 : bytes ≤ 8) {x : Int} (hx : (Lit.int k x).wf = true) (hn : xs.length + 1 ≤ 1073741824) (hbase : base ≤ w.heap.size) :
    ∃ v' w', Sem.run P (Builtin.append_ #[t, t] ty #[v, .slice (some ⟨w.heap.size, 0, none⟩) 1 1]) (w.alloc (.cells #[.int k x] e)) = .ok v' w' ∧ Own k e w' base v' (xs ++ [x]) ∧ Below base w w' := by
  obtain ⟨i, hi, hz, hs, hby⟩ := info_parts hinfo
  have hcell : ∀ j u, ([.int k x] : List Value)[j]? = some u → (w.alloc (.cells #[.int k x] e)).cell? ((⟨w.heap.size, 0, none⟩ : Addr).add j) = some u := by
    intro j u hj
    match j, hj with
    | 0, hj => simp at hj; subst hj; simp [Addr.add]
  obtain ⟨v', w', hrun, hown, hg, _, _⟩ := run_append_own_at (P := P) (w.alloc (.cells #[.int k x] e)) base t ty e i (.int k 0) 1 bytes ht hi hz hs hby rfl (by omega) v xs.length (xs.map (Value.int k)) (h.1.alloc _)
    ⟨w.heap.size, 0, none⟩ 1 1 [.int k x] rfl hcell (fun u hu => by rw [List.mem_singleton.1 hu]; rfl) (by unfold maxLen; omega) (by
      calc (xs.length + 1) * bytes ≤ (xs.length + 1) * 8 := Nat.mul_le_mul_left _ hb8
        _ ≤ 140737488355328 := by omega) (by simp; omega)
  refine ⟨v', w', hrun, ⟨by simpa using hown, ?_⟩, ?_⟩
  · intro y hy
    rcases List.mem_append.1 hy with h1 | h1
    · exact h.2 y h1
    · rw [List.mem_singleton.1 h1]; exact hx
  · refine (((Below.refl base w).alloc hbase _).grown hg (by simp; omega) ?_)
    intro b hb
    rcases h.1.2 with ⟨rfl, _⟩ | ⟨g, cap, cur, rfl, hgb, _⟩
    · simp [Value.ownBlock] at hb
    · simp [Value.ownBlock] at hb
      omega
/-- 'append(v, src...)'. -/
theorem Own.cat {P : Program} {t ty : TypeId} (h : Own k e w base v xs) (ht : P.underlying t = some (.slice e)) {bytes : Nat} (hinfo : (P.info? e).map (fun i => (i.zero, i.size, i.bytes)) = some (some (.int k 0), 1, bytes))
    (hb8 : bytes ≤ 8) {A : Option Addr} {m c B : Nat} {ys : List Int} (ha : Arr k w B A m ys) (hn : xs.length + m ≤ 1073741824) (hbase : base ≤ w.heap.size) :
    ∃ v' w', Sem.run P (Builtin.append_ #[t, t] ty #[v, .slice A m c]) w = .ok v' w' ∧ Own k e w' base v' (xs ++ ys) ∧ Below base w w' := by
  obtain ⟨i, hi, hz, hs, hby⟩ := info_parts hinfo
  have hrow : ∀ g, v.ownBlock = some g → base ≤ g := by
    intro b hb
    rcases h.1.2 with ⟨rfl, _⟩ | ⟨g, cap, cur, rfl, hgb, _⟩
    · simp [Value.ownBlock] at hb
    · simp [Value.ownBlock] at hb
      omega
  have hwf : ∀ y ∈ xs ++ ys, (Lit.int k y).wf = true := by
    intro y hy
    rcases List.mem_append.1 hy with h1 | h1
    · exact h.2 y h1
    · exact ha.2.1 y h1
  rcases A with _ | ad
  · have hm : m = 0 := by
      rcases Nat.eq_zero_or_pos m with h0 | h0
      · exact h0
      · obtain ⟨_, _, h1, _⟩ := ha.2.2 h0
        cases h1
    subst hm
    have hy : ys = [] := List.eq_nil_of_length_eq_zero ha.1
    subst hy
    refine ⟨v, w, ?_, by simpa using h, Below.refl _ _⟩
    rcases h.1.2 with ⟨rfl, h0⟩ | ⟨g, cap, cur, rfl, _, _, hnc, _⟩
    · simp [Builtin.append_, run_underlying ht, sizeOf, typeInfo, hi, Builtin.lenOf, Builtin.firstCells]
    · simp [Builtin.append_, run_underlying ht, sizeOf, typeInfo, hi, Builtin.lenOf, Builtin.firstCells, hnc, storeCells]
  · have hcell : ∀ j u, (ys.map (Value.int k))[j]? = some u → w.cell? (ad.add j) = some u := by
      intro j u hj
      have hjl : j < ys.length := by
        have := (List.getElem?_eq_some_iff.1 hj).1
        simpa using this
      obtain ⟨b, off, h1, _, hc⟩ := ha.2.2 (by have := ha.1; omega)
      injection h1 with h1
      subst h1
      have e1 : (⟨b, off, none⟩ : Addr).add j = ⟨b, off + j, none⟩ := by unfold Addr.add; split <;> simp_all
      rw [e1, hc j (by have := ha.1; omega), ← hj]
      simp [nth, List.getElem?_eq_getElem hjl]
    obtain ⟨v', w', hrun, hown, hg, _, _⟩ := run_append_own_at (P := P) w base t ty e i (.int k 0) 1 bytes ht hi hz hs hby rfl (by omega) v xs.length (xs.map (Value.int k)) h.1
      ad m c (ys.map (Value.int k)) (by simp [ha.1]) hcell (fun u hu => by obtain ⟨z, _, rfl⟩ := List.mem_map.1 hu; rfl) (by unfold maxLen; omega) (by
        calc (xs.length + m) * bytes ≤ (xs.length + m) * 8 := Nat.mul_le_mul_left _ hb8
          _ ≤ 140737488355328 := by omega) hbase
    refine ⟨v', w', hrun, ⟨?_, hwf⟩, (Below.refl base w).grown hg hbase hrow⟩
    rw [List.map_append, List.length_append, ha.1]
    exact hown
/-- Where there is an element the row's block is known. -/
theorem Own.form (h : Own k e w base v xs) (h0 : 0 < xs.length) : ∃ g cap, v = .slice (some ⟨g, 0, none⟩) xs.length cap ∧ base ≤ g ∧ g < w.heap.size ∧ (∀ j, j < xs.length → w.cell? ⟨g, j, none⟩ = some (.int k (nth xs j)) ∧ w.frozen? ⟨g, j, none⟩ = false) ∧
    ∀ j x, j < xs.length → (Lit.int k x).wf = true → Own k e (w.setCell ⟨g, j, none⟩ (.int k x)) base v (xs.set j x) := by
  obtain ⟨⟨hl, h2⟩, hw⟩ := h
  rcases h2 with ⟨_, h1⟩ | ⟨g, cap, cur, rfl, hg, hh, hc, hcm, hs, ht⟩
  · omega
  · refine ⟨g, cap, rfl, hg, ?_, fun j hj => ⟨?_, ?_⟩, fun j x hj hx => ⟨⟨?_, .inr ⟨g, cap, cur.setIfInBounds j (.int k x), ?_, hg, ?_, by simpa using hc, hcm, by simpa using hs, ?_⟩⟩, ?_⟩⟩
    · rcases Nat.lt_or_ge g w.heap.size with h | h
      · exact h
      · rw [Array.getElem?_eq_none h] at hh; cases hh
    · rw [cell_of_row w g j _ e (0, 0) hh]
      have h1 : (cur.toList.take (xs.length * 1))[j]? = some (.int k (nth xs j)) := by
        rw [ht]
        simp [nth, List.getElem?_map, List.getElem?_eq_getElem hj]
      rw [List.getElem?_take, if_pos (by omega)] at h1
      simpa using h1
    · simp [World.frozen?, hh]
    · simp
    · simp
    · simp [World.setCell, Array.getElem?_modify, hh]
    · rw [List.length_set, List.map_set, ← ht, Array.toList_setIfInBounds, List.take_set]
    · intro y hy
      rcases List.mem_or_eq_of_mem_set hy with h1 | h1
      · exact hw y h1
      · rw [h1]; exact hx
end
/-- Element 'j' of a list, the default where there is none. -/
def nthG {α : Type} [Inhabited α] (l : List α) (j : Nat) : α := l.getD j default
theorem nthG_get {α : Type} [Inhabited α] (l : List α) (j : Nat) (h : j < l.length) : nthG l j = l[j] := by simp [nthG, h]
/-- The slice's row, if it has one, is block 'lo' or a later one. -/
def High (lo : Nat) (A : Option Addr) (n : Nat) : Prop := ∀ b off, 0 < n → A = some ⟨b, off, none⟩ → lo ≤ b
theorem High.zero {lo : Nat} {A : Option Addr} : High lo A 0 := fun _ _ h => absurd h (by omega)
theorem High.less {lo lo' n : Nat} {A : Option Addr} (h : High lo A n) (hl : lo' ≤ lo) : High lo' A n := fun b off h0 hA => Nat.le_trans hl (h b off h0 hA)
theorem cell_setOther (w : World) {g b : Nat} (h : b ≠ g) (j : Nat) (d : Value) (off : Nat) : (w.setCell ⟨g, j, none⟩ d).cell? ⟨b, off, none⟩ = w.cell? ⟨b, off, none⟩ := by
  have : (w.setCell ⟨g, j, none⟩ d).heap[b]? = w.heap[b]? := by
    show (w.heap.modify g _)[b]? = _
    rw [Array.getElem?_modify, if_neg (by omega)]
  simp [World.cell?, this]
theorem Arr.setOther {k : IntKind} {w : World} {B n lo g : Nat} {A : Option Addr} {zs : List Int} (h : Arr k w B A n zs) (hi : High lo A n) (hg : g < lo) (j : Nat) (d : Value) : Arr k (w.setCell ⟨g, j, none⟩ d) B A n zs :=
  ⟨h.1, h.2.1, fun hn => by
    obtain ⟨b, off, e, hb, hc⟩ := h.2.2 hn
    have := hi b off hn e
    exact ⟨b, off, e, hb, fun i hi => (cell_setOther w (by omega) j d _).trans (hc i hi)⟩⟩
theorem Own.high {k : IntKind} {e : TypeId} {w : World} {base n c : Nat} {A : Option Addr} {xs : List Int} (h : Own k e w base (.slice A n c) xs) : High base A n := by
  intro b off hn hA
  rcases h.1.2 with ⟨h1, _⟩ | ⟨g, cap, cur, h1, hg, _⟩
  · injection h1 with h1; subst h1; cases hA
  · injection h1 with h1; subst h1; injection hA with hA; injection hA with hA; omega
section
variable {α : Type} (enc : α → List Value) (size : Nat)
/-- The slice value ('A', 'n') reads in 'w' as the elements 'l', and lies below block 'B'. -/
def ArrG [Inhabited α] (w : World) (B : Nat) (A : Option Addr) (n : Nat) (l : List α) : Prop :=
  l.length = n ∧ (0 < n → ∃ b off, A = some ⟨b, off, none⟩ ∧ b < B ∧ ∀ j, j < n → ∀ i, i < size → w.cell? ⟨b, off + j * size + i, none⟩ = (enc (nthG l j))[i]?)
/-- The slice value 'v' owns a row (from block 'base' on) that begins with the elements 'l', and has just so many. -/
def OwnG (e : TypeId) (w : World) (base : Nat) (v : Value) (l : List α) : Prop := w.ownsRow base e size v l.length (l.flatMap enc)
end
section
variable {α : Type} {enc : α → List Value} {size : Nat} {w w' : World} {e : TypeId} {base : Nat} {v : Value} {l : List α}
theorem flat_length (hs : ∀ a, (enc a).length = size) : ∀ l : List α, (l.flatMap enc).length = l.length * size
  | [] => by simp
  | a :: l => by rw [List.flatMap_cons, List.length_append, hs, flat_length hs l, List.length_cons, Nat.succ_mul]; omega
theorem OwnG.nil : OwnG enc size e w base (.slice none 0 0) ([] : List α) := World.ownsRow_nil _ _ _ _
theorem OwnG.empty (hb : base ≤ w.heap.size) : OwnG enc size e (w.alloc (.cells #[] e)) base (.slice (some ⟨w.heap.size, 0, none⟩) 0 0) ([] : List α) :=
  ⟨by simp, .inr ⟨w.heap.size, 0, #[], rfl, hb, heap_alloc_new w _, Nat.le_refl _, by omega, by simp, by simp⟩⟩
theorem OwnG.row (h : OwnG enc size e w base v l) : ∀ g, v.ownBlock = some g → base ≤ g := by
  intro b hb
  rcases h.2 with ⟨rfl, _⟩ | ⟨g, cap, cur, rfl, hgb, _⟩
  · simp [Value.ownBlock] at hb
  · simp [Value.ownBlock] at hb
    omega
theorem OwnG.drewN (h : OwnG enc size e w base v l) (q : Nat) : OwnG enc size e (w.drewN q) base v l := h
theorem OwnG.below (h : OwnG enc size e w base v l) (hb : Below w.heap.size w w') : OwnG enc size e w' base v l := by
  obtain ⟨hl, h2⟩ := h
  refine ⟨hl, h2.imp id ?_⟩
  rintro ⟨g, cap, cur, hv, hg, hh, r⟩
  refine ⟨g, cap, cur, hv, hg, ?_, r⟩
  rw [hb.block g ?_]; exact hh
  rcases Nat.lt_or_ge g w.heap.size with h | h
  · exact h
  · rw [Array.getElem?_eq_none h] at hh; cases hh
/-- 'append(v, x)': the element lies in a new block of its own. -/
theorem OwnG.pushK {P : Program} {t ty : TypeId} (hs : ∀ a, (enc a).length = size) (h1 : ∀ a, ∀ u ∈ enc a, u.oneCell' = true) (hsz : 0 < size) (h : OwnG enc size e w base v l) (ht : P.underlying t = some (.slice e)) {z : Value} {bytes : Nat}
    (hinfo : (P.info? e).map (fun i => (i.zero, i.size, i.bytes)) = some (some z, size, bytes)) (hz : z.cells.size = size) (hb : bytes ≤ 1000) (x : α) (hn : l.length + 1 ≤ 1073741824) (hbase : base ≤ w.heap.size) :
    ∃ v' w', Sem.run P (Builtin.append_ #[t, t] ty #[v, .slice (some ⟨w.heap.size, 0, none⟩) 1 1]) (w.alloc (.cells (enc x).toArray e)) = .ok v' w' ∧ OwnG enc size e w' base v' (l ++ [x]) ∧ Below base w w' ∧ (∀ i, i < w.heap.size → v.ownBlock ≠ some i → w'.heap[i]? = w.heap[i]?) ∧ (v'.ownBlock = v.ownBlock ∨ ∀ b, v'.ownBlock = some b → w.heap.size ≤ b) := by
  obtain ⟨i, hi, hz', hs', hby⟩ := info_parts hinfo
  have hcell : ∀ j u, (enc x)[j]? = some u → (w.alloc (.cells (enc x).toArray e)).cell? ((⟨w.heap.size, 0, none⟩ : Addr).add j) = some u := by
    intro j u hj
    have e1 : (⟨w.heap.size, 0, none⟩ : Addr).add j = ⟨w.heap.size, j, none⟩ := by unfold Addr.add; split <;> simp_all
    rw [e1, cell_of_row _ _ j _ e (0, 0) (heap_alloc_new w _)]
    simpa using hj
  obtain ⟨v', w', hrun, hown, hg, _, hloc⟩ := run_append_own_at (P := P) (w.alloc (.cells (enc x).toArray e)) base t ty e i z size bytes ht hi hz' hs' hby hz hsz v l.length (l.flatMap enc) (World.ownsRow.alloc h _)
    ⟨w.heap.size, 0, none⟩ 1 1 (enc x) (by rw [hs]; omega) hcell (h1 x) (by unfold maxLen; omega) (by
      calc (l.length + 1) * bytes ≤ (l.length + 1) * 1000 := Nat.mul_le_mul_left _ hb
        _ ≤ 140737488355328 := by omega) (by simp; omega)
  refine ⟨v', w', hrun, ?_, ?_, fun i hi hne => ?_, hloc.imp id fun h b hb => ?_⟩
  · unfold OwnG
    rw [List.flatMap_append, List.length_append]
    simpa using hown
  · exact (((Below.refl base w).alloc hbase _).grown hg (by simp; omega) h.row)
  · rw [hg.block i (by simp; omega) (fun e => hne e.symm)]
    exact Below.heap_alloc w _ i hi
  · rw [h] at hb
    injection hb with hb
    simp at hb
    omega
theorem OwnG.push {P : Program} {t ty : TypeId} (hs : ∀ a, (enc a).length = size) (h1 : ∀ a, ∀ u ∈ enc a, u.oneCell' = true) (hsz : 0 < size) (h : OwnG enc size e w base v l) (ht : P.underlying t = some (.slice e)) {z : Value} {bytes : Nat}
    (hinfo : (P.info? e).map (fun i => (i.zero, i.size, i.bytes)) = some (some z, size, bytes)) (hz : z.cells.size = size) (hb : bytes ≤ 1000) (x : α) (hn : l.length + 1 ≤ 1073741824) (hbase : base ≤ w.heap.size) :
    ∃ v' w', Sem.run P (Builtin.append_ #[t, t] ty #[v, .slice (some ⟨w.heap.size, 0, none⟩) 1 1]) (w.alloc (.cells (enc x).toArray e)) = .ok v' w' ∧ OwnG enc size e w' base v' (l ++ [x]) ∧ Below base w w' :=
  let ⟨v', w', h1, h2, h3, _⟩ := h.pushK hs h1 hsz ht hinfo hz hb x hn hbase
  ⟨v', w', h1, h2, h3⟩
/-- The row lies in the world. -/
theorem OwnG.rowLt (h : OwnG enc size e w base v l) : ∀ g, v.ownBlock = some g → g < w.heap.size := by
  intro b hb
  rcases h.2 with ⟨rfl, _⟩ | ⟨g, cap, cur, rfl, hgb, hh, _⟩
  · simp [Value.ownBlock] at hb
  · simp [Value.ownBlock] at hb
    subst hb
    rcases Nat.lt_or_ge g w.heap.size with h | h
    · exact h
    · rw [Array.getElem?_eq_none h] at hh; cases hh
end
section
variable {α : Type} [Inhabited α] {enc : α → List Value} {size : Nat}
theorem flat_at (hs : ∀ a, (enc a).length = size) : ∀ (l : List α) (j i : Nat), j < l.length → i < size → (l.flatMap enc)[j * size + i]? = (enc (nthG l j))[i]?
  | [], j, i, hj, _ => absurd hj (by simp)
  | a :: l, 0, i, _, hi => by
    rw [List.flatMap_cons, Nat.zero_mul, Nat.zero_add, List.getElem?_append_left (by rw [hs]; exact hi)]
    rfl
  | a :: l, j + 1, i, hj, hi => by
    rw [List.flatMap_cons, List.getElem?_append_right (by rw [hs, Nat.succ_mul]; omega), hs, show (j + 1) * size + i - size = j * size + i by rw [Nat.succ_mul]; omega,
      flat_at hs l j i (by simpa using hj) hi]
    rfl
theorem flat_set (hs : ∀ a, (enc a).length = size) : ∀ (l : List α) (j i : Nat) (a : α) (u : Value), j < l.length → i < size → enc a = (enc (nthG l j)).set i u → (l.flatMap enc).set (j * size + i) u = (l.set j a).flatMap enc
  | [], j, i, _, _, hj, _, _ => absurd hj (by simp)
  | b :: l, 0, i, a, u, _, hi, he => by
    have : nthG (b :: l) 0 = b := rfl
    rw [this] at he
    rw [List.flatMap_cons, List.set_cons_zero, List.flatMap_cons, Nat.zero_mul, Nat.zero_add, List.set_append_left _ _ (by rw [hs]; exact hi), he]
  | b :: l, j + 1, i, a, u, hj, hi, he => by
    rw [List.flatMap_cons, List.set_cons_succ, List.flatMap_cons, List.set_append_right _ _ (by rw [hs, Nat.succ_mul]; omega), hs, show (j + 1) * size + i - size = j * size + i by rw [Nat.succ_mul]; omega,
      flat_set hs l j i a u (by simpa using hj) hi he]
variable {w w' : World} {B B' n : Nat} {A : Option Addr} {l : List α}
theorem ArrG.keep (h : ArrG enc size w B A n l) (hk : ∀ p : Addr, p.block < B → w'.cell? p = w.cell? p) : ArrG enc size w' B A n l :=
  ⟨h.1, fun hn => by
    obtain ⟨b, off, e, hb, hc⟩ := h.2 hn
    exact ⟨b, off, e, hb, fun j hj i hi => (hk _ hb).trans (hc j hj i hi)⟩⟩
theorem ArrG.below (h : ArrG enc size w B A n l) (hb : Below B' w w') (hB : B ≤ B') : ArrG enc size w' B A n l := h.keep fun _ hp => hb.cell (by omega)
theorem ArrG.more (h : ArrG enc size w B A n l) (hB : B ≤ B') : ArrG enc size w B' A n l :=
  ⟨h.1, fun hn => by
    obtain ⟨b, off, e, hb, hc⟩ := h.2 hn
    exact ⟨b, off, e, by omega, hc⟩⟩
theorem ArrG.drewN (h : ArrG enc size w B A n l) (q : Nat) : ArrG enc size (w.drewN q) B A n l := h
theorem ArrG.zero : ArrG enc size w B A 0 ([] : List α) := ⟨rfl, fun h => absurd h (by omega)⟩
theorem ArrG.none_len (h : ArrG enc size w B none n l) : n = 0 := by
  rcases Nat.eq_zero_or_pos n with h0 | h0
  · exact h0
  · obtain ⟨_, _, h, _⟩ := h.2 h0; cases h
/-- The element's cells, where there is one. -/
theorem ArrG.at_ (h : ArrG enc size w B A n l) {j : Nat} (hj : j < n) : ∃ b off, A = some ⟨b, off, none⟩ ∧ b < B ∧ ∀ i, i < size → w.cell? ⟨b, off + j * size + i, none⟩ = (enc (nthG l j))[i]? := by
  obtain ⟨b, off, e, hb, hc⟩ := h.2 (by omega)
  exact ⟨b, off, e, hb, hc j hj⟩
variable {e : TypeId} {base : Nat} {v : Value}
theorem OwnG.form (hs : ∀ a, (enc a).length = size) (h : OwnG enc size e w base v l) (h0 : 0 < l.length) :
    ∃ g cap, v = .slice (some ⟨g, 0, none⟩) l.length cap ∧ l.length ≤ cap ∧ base ≤ g ∧ g < w.heap.size ∧ (∀ j, j < l.length → ∀ i, i < size → w.cell? ⟨g, j * size + i, none⟩ = (enc (nthG l j))[i]? ∧ w.frozen? ⟨g, j * size + i, none⟩ = false) ∧
      ∀ j i a u, j < l.length → i < size → enc a = (enc (nthG l j)).set i u → OwnG enc size e (w.setCell ⟨g, j * size + i, none⟩ u) base v (l.set j a) := by
  obtain ⟨hl, h2⟩ := h
  rcases h2 with ⟨_, h1⟩ | ⟨g, cap, cur, rfl, hg, hh, hc, hcm, hsz, ht⟩
  · omega
  · have hlen : ∀ j, j < l.length → ∀ i, i < size → j * size + i < l.length * size := fun j hj i hi => by
      have : (j + 1) * size ≤ l.length * size := Nat.mul_le_mul_right _ hj
      rw [Nat.succ_mul] at this; omega
    refine ⟨g, cap, rfl, hc, hg, ?_, fun j hj i hi => ⟨?_, ?_⟩, fun j i a u hj hi he => ⟨?_, .inr ⟨g, cap, cur.setIfInBounds (j * size + i) u, ?_, hg, ?_, by simpa using hc, hcm, by simpa using hsz, ?_⟩⟩⟩
    · rcases Nat.lt_or_ge g w.heap.size with h | h
      · exact h
      · rw [Array.getElem?_eq_none h] at hh; cases hh
    · rw [cell_of_row w g _ _ e (0, 0) hh]
      have h1 := flat_at hs l j i hj hi
      rw [← ht, List.getElem?_take, if_pos (hlen j hj i hi)] at h1
      simpa using h1
    · simp [World.frozen?, hh]
    · rw [flat_length hs]
    · simp
    · simp [World.setCell, Array.getElem?_modify, hh]
    · rw [List.length_set, ← flat_set hs l j i a u hj hi he, ← ht, Array.toList_setIfInBounds, List.take_set]
omit [Inhabited α] in
theorem OwnG.high {A : Option Addr} {n c : Nat} (h : OwnG enc size e w base (.slice A n c) l) : High base A n := by
  intro b off hn hA
  rcases h.2 with ⟨h1, _⟩ | ⟨g, cap, cur, h1, hg, _⟩
  · injection h1 with h1; subst h1; cases hA
  · injection h1 with h1; subst h1; injection hA with hA; injection hA with hA; omega
theorem ArrG.setOther {lo g : Nat} (h : ArrG enc size w B A n l) (hi : High lo A n) (hg : g < lo) (j : Nat) (d : Value) : ArrG enc size (w.setCell ⟨g, j, none⟩ d) B A n l :=
  ⟨h.1, fun hn => by
    obtain ⟨b, off, e, hb, hc⟩ := h.2 hn
    have := hi b off hn e
    exact ⟨b, off, e, hb, fun i hi k hk => (cell_setOther w (by omega) j d _).trans (hc i hi k hk)⟩⟩
/-- What is owned reads as the elements. -/
theorem OwnG.arr (hs : ∀ a, (enc a).length = size) (h : OwnG enc size e w base v l) : ∃ A c, v = .slice A l.length c ∧ l.length ≤ c ∧ ArrG enc size w w.heap.size A l.length l := by
  rcases Nat.eq_zero_or_pos l.length with h0 | h0
  · have hl : l = [] := List.eq_nil_of_length_eq_zero h0
    subst hl
    rcases h.2 with ⟨rfl, _⟩ | ⟨g, cap, cur, rfl, _⟩
    · exact ⟨_, _, rfl, Nat.le_refl _, ArrG.zero⟩
    · exact ⟨_, _, rfl, Nat.zero_le _, ArrG.zero⟩
  · obtain ⟨g, cap, rfl, hc, _, hlt, hcell, _⟩ := h.form hs h0
    exact ⟨_, _, rfl, hc, rfl, fun _ => ⟨g, 0, rfl, hlt, fun j hj i hi => by rw [Nat.zero_add]; exact (hcell j hj i hi).1⟩⟩
end
end Go.Proofs.Ytjefbekdjgmmbaa
