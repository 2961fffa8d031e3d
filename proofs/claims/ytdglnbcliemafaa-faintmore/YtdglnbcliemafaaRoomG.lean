/-
  Slices of rooms: cuts, appends; contracts of slices.IndexFunc, ContainsFunc, Equal, Grow and Concat at []api.Room.
-/
import Derived.Test.YtdglnbcliemafaaTwinM
import Derived.Test.YtdglnbcliemafaaRunFn2
import Derived.Test.YtdglnbcliemafaaWalkM
import Derived.Lib.AppendZeros
import Derived.Lib.SliceRun
namespace Go.Proofs.Ytdglnbcliemafaa
open Go.RowKit

theorem ArrG.room {w : World} {B n : Nat} {A : Option Addr} {l : List Room} (h : ArrG roomC 3 w B A n l) {j : Nat} (hj : j < n) :
    ∃ b off, A = some ⟨b, off, none⟩ ∧ b < B ∧ w.cell? ⟨b, off + j * 3, none⟩ = some (.int .i64 (nthG l j).1) ∧ w.cell? ⟨b, off + j * 3 + 1, none⟩ = some (.int .i64 (nthG l j).2.1) ∧ w.cell? ⟨b, off + j * 3 + 2, none⟩ = some (.int .i64 (nthG l j).2.2) := by
  obtain ⟨b, off, e, hb, hc⟩ := h.at_ hj
  exact ⟨b, off, e, hb, hc 0 (by omega), hc 1 (by omega), hc 2 (by omega)⟩
/-- 'x[p:]' of a slice of structs. -/
theorem run_fromG {P : Program} {t e : TypeId} {sz : Nat} (ht : P.underlying t = some (.slice e)) (hs : (P.info? e).map (·.size) = some sz) (A : Option Addr) (len cap p : Nat) (l : Int) (hl : l = p) (hp : p ≤ len) (hc : len ≤ cap) :
    ∃ D, (∀ wx, Sem.run P (Instr.slice t (.slice A len cap) (some (.int .i64 l)) none none) wx = .ok (.slice D (len - p) (cap - p)) wx) ∧ ∀ b off, A = some ⟨b, off, none⟩ → 0 < len - p → D = some ⟨b, off + p * sz, none⟩ := by
  have he : P.elem t = e := by simp [Program.elem, ht]
  have ht' : P.underlying t = some (.slice (P.elem t)) := by rw [he]; exact ht
  refine ⟨if cap = p then A else A.map (·.add (p * sz)), fun wx => ?_, fun b off hA hq0 => ?_⟩
  · rw [run_slice_l wx t A len cap ht' .i64 l (by omega) (by omega)]
    cases hi : P.info? e with
    | none => simp [hi] at hs
    | some i =>
      have h1 : i.size = sz := by simpa [hi] using hs
      have e1 : l.toNat = p := by omega
      simp [he, sizeOf, typeInfo, hi, h1, sliced, e1]
  · subst hA
    rw [if_neg (by omega)]
    simp only [Option.map_some]
    congr 1
    unfold Addr.add
    split <;> simp_all
/-- 'x[:q]' of a slice of structs. -/
theorem run_uptoG {P : Program} {t e : TypeId} {sz : Nat} (ht : P.underlying t = some (.slice e)) (hs : (P.info? e).map (·.size) = some sz) (A : Option Addr) (len cap q : Nat) (h : Int) (hh : h = q) (hc : q ≤ cap) :
    ∃ D, (∀ wx, Sem.run P (Instr.slice t (.slice A len cap) none (some (.int .i64 h)) none) wx = .ok (.slice D q cap) wx) ∧ ∀ b off, A = some ⟨b, off, none⟩ → D = some ⟨b, off, none⟩ := by
  have he : P.elem t = e := by simp [Program.elem, ht]
  have ht' : P.underlying t = some (.slice (P.elem t)) := by rw [he]; exact ht
  refine ⟨if cap = 0 then A else A.map (·.add 0), fun wx => ?_, fun b off hA => ?_⟩
  · rw [run_slice_h wx t A len cap ht' .i64 h (by omega) (by omega)]
    cases hi : P.info? e with
    | none => simp [hi] at hs
    | some i =>
      have h1 : i.size = sz := by simpa [hi] using hs
      have e1 : h.toNat = q := by omega
      simp [he, sizeOf, typeInfo, hi, h1, sliced, e1]
  · subst hA
    split
    · rfl
    · simp [Addr.add]
theorem ArrG.cutG {α : Type} [Inhabited α] {enc : α → List Value} {size : Nat} {w : World} {B n : Nat} {A D : Option Addr} {l : List α} (h : ArrG enc size w B A n l) {p q : Nat} (hpq : p + q ≤ n) (hD : ∀ b off, A = some ⟨b, off, none⟩ → 0 < q → D = some ⟨b, off + p * size, none⟩) : ArrG enc size w B D q ((l.drop p).take q) := by
  obtain ⟨hl, hc⟩ := h
  refine ⟨by simp; omega, fun hq => ?_⟩
  obtain ⟨b, off, rfl, hb, hcell⟩ := hc (by omega)
  refine ⟨b, off + p * size, hD b off rfl hq, hb, fun j hj i hi => ?_⟩
  have := hcell (p + j) (by omega) i hi
  rw [Nat.add_mul] at this
  rw [show off + p * size + j * size + i = off + (p * size + j * size) + i by omega, this]
  congr 2
  rw [nthG_get _ _ (by omega), nthG_get _ _ (by simp; omega)]
  simp
/-- 'append(v, src...)' of structs. -/
theorem OwnG.cat {α : Type} [Inhabited α] {enc : α → List Value} {size : Nat} (hs : ∀ a, (enc a).length = size) (h1 : ∀ a, ∀ u ∈ enc a, u.oneCell' = true) (hsz : 0 < size) {P : Program} {t ty e : TypeId} {w : World} {base : Nat} {v : Value} {l l' : List α} (h : OwnG enc size e w base v l) (ht : P.underlying t = some (.slice e)) {z : Value} {bytes : Nat}
    (hinfo : (P.info? e).map (fun i => (i.zero, i.size, i.bytes)) = some (some z, size, bytes)) (hz : z.cells.size = size) (hb : bytes ≤ 1000) {A : Option Addr} {m c B : Nat} (ha : ArrG enc size w B A m l') (hn : l.length + m ≤ 1000000) (hbase : base ≤ w.heap.size) :
    ∃ v' w', Sem.run P (Builtin.append_ #[t, t] ty #[v, .slice A m c]) w = .ok v' w' ∧ OwnG enc size e w' base v' (l ++ l') ∧ Below base w w' := by
  obtain ⟨i, hi, hz', hs', hby⟩ := info_parts hinfo
  rcases A with _ | ad
  · have hm : m = 0 := ha.none_len
    subst hm
    have hy : l' = [] := List.eq_nil_of_length_eq_zero ha.1
    subst hy
    refine ⟨v, w, ?_, by simpa using h, Below.refl _ _⟩
    rcases h.2 with ⟨rfl, h0⟩ | ⟨g, cap, cur, rfl, _, _, hnc, _⟩
    · simp [Builtin.append_, run_underlying ht, sizeOf, typeInfo, hi, Builtin.lenOf, Builtin.firstCells]
    · simp [Builtin.append_, run_underlying ht, sizeOf, typeInfo, hi, Builtin.lenOf, Builtin.firstCells, hnc, storeCells]
  · have hl' := ha.1
    have hcell : ∀ j u, (l'.flatMap enc)[j]? = some u → w.cell? (ad.add j) = some u := by
      intro j u hj
      have hjl : j < l'.length * size := by
        have := (List.getElem?_eq_some_iff.1 hj).1
        rwa [flat_length hs] at this
      have h0 : 0 < m := by
        rcases Nat.eq_zero_or_pos l'.length with h | h
        · rw [h, Nat.zero_mul] at hjl; omega
        · omega
      obtain ⟨b, off, h1, _, hc⟩ := ha.2 h0
      injection h1 with h1
      subst h1
      have e1 : (⟨b, off, none⟩ : Addr).add j = ⟨b, off + j, none⟩ := by unfold Addr.add; split <;> simp_all
      have d1 : j / size < l'.length := Nat.div_lt_of_lt_mul (by rw [Nat.mul_comm]; exact hjl)
      have d2 : j % size < size := Nat.mod_lt _ hsz
      have d3 : j / size * size + j % size = j := Nat.div_add_mod' j size
      have h2 := hc (j / size) (by omega) (j % size) d2
      have h3 := flat_at hs l' (j / size) (j % size) d1 d2
      rw [d3] at h3
      rw [Nat.add_assoc, d3] at h2
      rw [e1, h2, ← h3, hj]
    obtain ⟨v', w', hrun, hown, hg, _, _⟩ := run_append_own_at (P := P) w base t ty e i z size bytes ht hi hz' hs' hby hz hsz v l.length (l.flatMap enc) h
      ad m c (l'.flatMap enc) (by rw [flat_length hs, hl']) hcell (fun u hu => by
        obtain ⟨a, _, ha⟩ := List.mem_flatMap.1 hu
        exact h1 a u ha) (by unfold maxLen; omega) (by
        calc (l.length + m) * bytes ≤ 1000000 * 1000 := Nat.mul_le_mul hn hb
          _ ≤ 140737488355328 := by omega) hbase
    refine ⟨v', w', hrun, ?_, (Below.refl base w).grown hg hbase h.row⟩
    unfold OwnG
    rw [List.flatMap_append, List.length_append, hl']
    exact hown
/-- A slice of one element that is laid anew. -/
theorem one_run (w : World) (t : TypeId) (r : Int × Int) : OwnG runC 2 t (w.alloc (.cells #[.int .i64 r.1, .int .i64 r.2] t)) w.heap.size (.slice (some ⟨w.heap.size, 0, none⟩) 1 1) [r] :=
  ⟨rfl, .inr ⟨w.heap.size, 1, #[.int .i64 r.1, .int .i64 r.2], rfl, Nat.le_refl _, Box.new w t _, Nat.le_refl _, by unfold maxLen; omega, rfl, rfl⟩⟩
theorem one_room (w : World) (t : TypeId) (r : Room) : ArrG roomC 3 (w.alloc (.cells #[.int .i64 r.1, .int .i64 r.2.1, .int .i64 r.2.2] t)) (w.heap.size + 1) (some ⟨w.heap.size, 0, none⟩) 1 [r] := by
  refine ⟨rfl, fun _ => ⟨w.heap.size, 0, rfl, by omega, fun j hj i hi => ?_⟩⟩
  have : j = 0 := by omega
  subst this
  have hb := Box.new w t #[.int .i64 r.1, .int .i64 r.2.1, .int .i64 r.2.2]
  rw [Nat.zero_mul, Nat.zero_add, hb.cell i]
  have h1 : nthG [r] 0 = r := rfl
  rw [h1]
  have : i = 0 ∨ i = 1 ∨ i = 2 := by omega
  rcases this with rfl | rfl | rfl <;> rfl

/-- An append of other operands than two slices of one type, whose run is known. -/
theorem wpList_append_runG {P : Program} {w : World} {ops : Array Oper} {rest : List Oper} {o : Oper} {a : Act} {Q : Exit → Act → World → Prop} (hgd : o.guard = none) (s x : Operand) (t t2 : TypeId)
    (ho : o.op = .call { callee := .builtin .append, args := #[s, x], argTypes := #[t, t2] }) {v src v' : Value} {w' : World} (hs : a.eval s = v) (hx : a.eval x = src)
    (hrun : Sem.run P (Builtin.append_ #[t, t2] o.type #[v, src]) w = .ok v' w') (h : wpList P ops Q rest (a.put o.dst v') w') : wpList P ops Q (o :: rest) a w := by
  refine wpList_plain hgd fun K hK => ?_
  unfold Oper.wp execOp
  simp only [ho, resolve, invoke, builtin, Sem.run_bind, Sem.run_pure, Result.andThen_ok, List.map_toArray, List.map_cons, List.map_nil, hs, hx, hrun]
  exact hK _ _ h

/-- The length of the first 'k' lists. -/
def lenTo (ls : Nat → List Room) : Nat → Nat
  | 0 => 0
  | k + 1 => lenTo ls k + (ls k).length
def catTo (ls : Nat → List Room) : Nat → List Room
  | 0 => []
  | k + 1 => catTo ls k ++ ls k
theorem catTo_len (ls : Nat → List Room) : ∀ k, (catTo ls k).length = lenTo ls k
  | 0 => rfl
  | k + 1 => by rw [catTo, lenTo, List.length_append, catTo_len ls k]
theorem lenTo_le (ls : Nat → List Room) {m : Nat} (h : ∀ j, j < m → (ls j).length ≤ 300) : ∀ k, k ≤ m → lenTo ls k ≤ k * 300
  | 0, _ => Nat.le_refl _
  | k + 1, hk => by
    have := lenTo_le ls h k (by omega)
    have := h k (by omega)
    rw [lenTo]; omega
end Go.Proofs.Ytdglnbcliemafaa
