/-
  A slice of integers that the call itself makes and appends to ('Own'), and a string out of one of bytes. Over no program.
-/
import Derived.Test.YtknbbondofijeaaBase
import Derived.OwnWalk
import Derived.Maps.AppendAt
import Derived.Laws.BytesArg
import Derived.WalkSmall
namespace Go.Proofs.Ytknbbondofijeaa
open Go.RowKit

/-- The slice value 'v' owns a row (from block 'base' on) that begins with the numbers 'xs', and has just so many elements. -/
def Own (k : IntKind) (e : TypeId) (w : World) (base : Nat) (v : Value) (xs : List Int) : Prop :=
  w.ownsRow base e 1 v xs.length (xs.map (Value.int k)) ∧ ∀ x ∈ xs, (Lit.int k x).wf = true

/-- An append whose run is known, as a step of the walk. -/
theorem wpList_append_run {P : Program} {w : World} {ops : Array Oper} {rest : List Oper} {o : Oper} {a : Act} {Q : Exit → Act → World → Prop} (hgd : o.guard = none) (s x : Operand) (t : TypeId)
    (ho : o.op = .call { callee := .builtin .append, args := #[s, x], argTypes := #[t, t] }) {v src v' : Value} {w' : World} (hs : a.eval s = v) (hx : a.eval x = src)
    (hrun : Sem.run P (Builtin.append_ #[t, t] o.type #[v, src]) w = .ok v' w') (h : wpList P ops Q rest (a.put o.dst v') w') : wpList P ops Q (o :: rest) a w := by
  refine wpList_plain hgd fun K hK => ?_
  unfold Oper.wp execOp
  simp only [ho, resolve, invoke, builtin, Sem.run_bind, Sem.run_pure, Result.andThen_ok, List.map_toArray, List.map_cons, List.map_nil, hs, hx, hrun]
  exact hK _ _ h

section
variable {k : IntKind} {e : TypeId} {w w' : World} {base : Nat} {v : Value} {xs : List Int}
theorem Own.nil : Own k e w base (.slice none 0 0) [] := ⟨World.ownsRow_nil _ _ _ _, fun x hx => by cases hx⟩

/-- What is owned reads as the numbers. -/
theorem Own.arr (h : Own k e w base v xs) : ∃ A c, v = .slice A xs.length c ∧ xs.length ≤ c ∧ Arr k w w.heap.size A xs.length xs := by
  obtain ⟨⟨hl, h2⟩, hw⟩ := h
  rcases h2 with ⟨rfl, h0⟩ | ⟨g, cap, cur, rfl, hg, hh, hc, _, hs, ht⟩
  · have : xs = [] := List.eq_nil_of_length_eq_zero h0
    subst this
    exact ⟨none, 0, rfl, Nat.le_refl _, Arr.zero⟩
  · refine ⟨_, cap, rfl, hc, rfl, hw, fun _ => ⟨g, 0, rfl, ?_, fun j hj => ?_⟩⟩
    · rcases Nat.lt_or_ge g w.heap.size with h | h
      · exact h
      · rw [Array.getElem?_eq_none h] at hh; cases hh
    · rw [Nat.zero_add, cell_of_row w g j _ e (0, 0) hh]
      have h1 : (cur.toList.take (xs.length * 1))[j]? = some (.int k (nth xs j)) := by
        rw [ht]
        simp [nth, List.getElem?_map, List.getElem?_eq_getElem hj]
      rw [List.getElem?_take, if_pos (by omega)] at h1
      simpa using h1

/-- 'append(v, x)': the value lies in a new block of one cell. -/
theorem Own.push {P : Program} {t ty : TypeId} (h : Own k e w base v xs) (ht : P.underlying t = some (.slice e)) {bytes : Nat} (hinfo : (P.info? e).map (fun i => (i.zero, i.size, i.bytes)) = some (some (.int k 0), 1, bytes))
    (hb8 : bytes ≤ 8) {x : Int} (hx : (Lit.int k x).wf = true) (hn : xs.length + 1 ≤ 1073741824) (hbase : base ≤ w.heap.size) :
    ∃ v' w', Sem.run P (Builtin.append_ #[t, t] ty #[v, .slice (some ⟨w.heap.size, 0, none⟩) 1 1]) (w.alloc (.cells #[.int k x] e)) = .ok v' w' ∧ Own k e w' base v' (xs ++ [x]) ∧ Below base w w' := by
  obtain ⟨i, hi, hz, hs, hby⟩ := info_parts hinfo
  have hcell : ∀ j u, ([.int k x] : List Value)[j]? = some u → (w.alloc (.cells #[.int k x] e)).cell? ((⟨w.heap.size, 0, none⟩ : Addr).add j) = some u := by
    intro j u hj
    match j, hj with
    | 0, hj => simp at hj; subst hj; simp [Addr.add]
  obtain ⟨v', w', hrun, hown, hg, _, _⟩ := run_append_own_at (P := P) (w.alloc (.cells #[.int k x] e)) base t ty e i (.int k 0) 1 bytes ht hi hz hs hby rfl (by omega) v xs.length (xs.map (Value.int k)) (h.1.alloc _)
    ⟨w.heap.size, 0, none⟩ 1 1 [.int k x] rfl hcell (fun u hu => by rw [List.mem_singleton.1 hu]; rfl) (by unfold maxLen; omega) (by
      calc (xs.length + 1) * bytes ≤ (xs.length + 1) * 8 := Nat.mul_le_mul_left _ hb8
        _ ≤ 140737488355328 := by omega) (by simp; omega)
  refine ⟨v', w', hrun, ⟨by simpa using hown, ?_⟩, ?_⟩
  · intro y hy
    rcases List.mem_append.1 hy with h1 | h1
    · exact h.2 y h1
    · rw [List.mem_singleton.1 h1]; exact hx
  · refine (((Below.refl base w).alloc hbase _).grown hg (by simp; omega) ?_)
    intro b hb
    rcases h.1.2 with ⟨rfl, _⟩ | ⟨g, cap, cur, rfl, hgb, _⟩
    · simp [Value.ownBlock] at hb
    · simp [Value.ownBlock] at hb
      omega

/-- 'append(v, src...)'. -/
theorem Own.cat {P : Program} {t ty : TypeId} (h : Own k e w base v xs) (ht : P.underlying t = some (.slice e)) {bytes : Nat} (hinfo : (P.info? e).map (fun i => (i.zero, i.size, i.bytes)) = some (some (.int k 0), 1, bytes))
    (hb8 : bytes ≤ 8) {A : Option Addr} {m c B : Nat} {ys : List Int} (ha : Arr k w B A m ys) (hn : xs.length + m ≤ 1073741824) (hbase : base ≤ w.heap.size) :
    ∃ v' w', Sem.run P (Builtin.append_ #[t, t] ty #[v, .slice A m c]) w = .ok v' w' ∧ Own k e w' base v' (xs ++ ys) ∧ Below base w w' := by
  obtain ⟨i, hi, hz, hs, hby⟩ := info_parts hinfo
  have hrow : ∀ g, v.ownBlock = some g → base ≤ g := by
    intro b hb
    rcases h.1.2 with ⟨rfl, _⟩ | ⟨g, cap, cur, rfl, hgb, _⟩
    · simp [Value.ownBlock] at hb
    · simp [Value.ownBlock] at hb
      omega
  have hwf : ∀ y ∈ xs ++ ys, (Lit.int k y).wf = true := by
    intro y hy
    rcases List.mem_append.1 hy with h1 | h1
    · exact h.2 y h1
    · exact ha.2.1 y h1
  rcases A with _ | ad
  · have hm : m = 0 := by
      rcases Nat.eq_zero_or_pos m with h0 | h0
      · exact h0
      · obtain ⟨_, _, h1, _⟩ := ha.2.2 h0
        cases h1
    subst hm
    have hy : ys = [] := List.eq_nil_of_length_eq_zero ha.1
    subst hy
    refine ⟨v, w, ?_, by simpa using h, Below.refl _ _⟩
    rcases h.1.2 with ⟨rfl, h0⟩ | ⟨g, cap, cur, rfl, _, _, hnc, _⟩
    · simp [Builtin.append_, run_underlying ht, sizeOf, typeInfo, hi, Builtin.lenOf, Builtin.firstCells]
    · simp [Builtin.append_, run_underlying ht, sizeOf, typeInfo, hi, Builtin.lenOf, Builtin.firstCells, hnc, storeCells]
  · have hcell : ∀ j u, (ys.map (Value.int k))[j]? = some u → w.cell? (ad.add j) = some u := by
      intro j u hj
      have hjl : j < ys.length := by
        have := (List.getElem?_eq_some_iff.1 hj).1
        simpa using this
      obtain ⟨b, off, h1, _, hc⟩ := ha.2.2 (by have := ha.1; omega)
      injection h1 with h1
      subst h1
      have e1 : (⟨b, off, none⟩ : Addr).add j = ⟨b, off + j, none⟩ := by unfold Addr.add; split <;> simp_all
      rw [e1, hc j (by have := ha.1; omega), ← hj]
      simp [nth, List.getElem?_eq_getElem hjl]
    obtain ⟨v', w', hrun, hown, hg, _, _⟩ := run_append_own_at (P := P) w base t ty e i (.int k 0) 1 bytes ht hi hz hs hby rfl (by omega) v xs.length (xs.map (Value.int k)) h.1
      ad m c (ys.map (Value.int k)) (by simp [ha.1]) hcell (fun u hu => by obtain ⟨z, _, rfl⟩ := List.mem_map.1 hu; rfl) (by unfold maxLen; omega) (by
        calc (xs.length + m) * bytes ≤ (xs.length + m) * 8 := Nat.mul_le_mul_left _ hb8
          _ ≤ 140737488355328 := by omega) hbase
    refine ⟨v', w', hrun, ⟨?_, hwf⟩, (Below.refl base w).grown hg hbase hrow⟩
    rw [List.map_append, List.length_append, ha.1]
    exact hown

/-- Where there is an element the row's block is known. -/
theorem Own.form (h : Own k e w base v xs) (h0 : 0 < xs.length) : ∃ g cap, v = .slice (some ⟨g, 0, none⟩) xs.length cap ∧ base ≤ g ∧ g < w.heap.size ∧ (∀ j, j < xs.length → w.cell? ⟨g, j, none⟩ = some (.int k (nth xs j)) ∧ w.frozen? ⟨g, j, none⟩ = false) ∧
    ∀ j x, j < xs.length → (Lit.int k x).wf = true → Own k e (w.setCell ⟨g, j, none⟩ (.int k x)) base v (xs.set j x) := by
  obtain ⟨⟨hl, h2⟩, hw⟩ := h
  rcases h2 with ⟨_, h1⟩ | ⟨g, cap, cur, rfl, hg, hh, hc, hcm, hs, ht⟩
  · omega
  · refine ⟨g, cap, rfl, hg, ?_, fun j hj => ⟨?_, ?_⟩, fun j x hj hx => ⟨⟨?_, .inr ⟨g, cap, cur.setIfInBounds j (.int k x), ?_, hg, ?_, by simpa using hc, hcm, by simpa using hs, ?_⟩⟩, ?_⟩⟩
    · rcases Nat.lt_or_ge g w.heap.size with h | h
      · exact h
      · rw [Array.getElem?_eq_none h] at hh; cases hh
    · rw [cell_of_row w g j _ e (0, 0) hh]
      have h1 : (cur.toList.take (xs.length * 1))[j]? = some (.int k (nth xs j)) := by
        rw [ht]
        simp [nth, List.getElem?_map, List.getElem?_eq_getElem hj]
      rw [List.getElem?_take, if_pos (by omega)] at h1
      simpa using h1
    · simp [World.frozen?, hh]
    · simp
    · simp
    · simp [World.setCell, Array.getElem?_modify, hh]
    · rw [List.length_set, List.map_set, ← ht, Array.toList_setIfInBounds, List.take_set]
    · intro y hy
      rcases List.mem_or_eq_of_mem_set hy with h1 | h1
      · exact hw y h1
      · rw [h1]; exact hx

/-- 'string(v)' of owned bytes. -/
theorem Own.text {P : Program} {src dst : TypeId} (h : Own .u8 e w base v xs) (hs : P.underlying src = some (.slice e)) (he : P.underlying e = some (.int .u8)) (hd : P.underlying dst = some .string) :
    Sem.run P (convert src dst v) w = .ok (.string (strOfNums xs)) w := by
  obtain ⟨A, c, rfl, _, ha⟩ := h.arr
  obtain ⟨_, _, hc⟩ := ha
  rcases Nat.eq_zero_or_pos xs.length with h0 | h0
  · have : xs = [] := List.eq_nil_of_length_eq_zero h0
    subst this
    rcases A with _ | ⟨b, off, sp⟩
    · exact run_convert_bytes_nil (P := P) w src e hs he _ c dst hd
    · rcases h.1.2 with ⟨h1, _⟩ | ⟨g, cap, cur, h1, _⟩
      · cases h1
      · injection h1 with h1
        injection h1 with h1
        injection h1 with _ _ h3
        subst h3
        exact run_convert_bytes_arg (P := P) w src e hs he b off 0 c [] rfl (fun i hi => absurd hi (by omega)) dst hd
  · obtain ⟨b, off, rfl, _, hcell⟩ := hc h0
    exact run_convert_bytes_arg (P := P) w src e hs he b off xs.length c xs rfl (fun i hi => hcell i hi) dst hd
end
end Go.Proofs.Ytknbbondofijeaa
