/-
  A map from integers to integers that the call makes: block 'b' is the map 'f' ('MapF'). Over no program.
-/
import Derived.Test.YtknbbondofijeaaWalkB
import Derived.Maps.OwnSet
import Derived.Maps.OwnOps
namespace Go.Proofs.Ytknbbondofijeaa
open Go.RowKit
open Go.Maps (Keyed int_keyed keyOf_int_mk)

/-- What is known of a map type's parts. -/
structure MapT (P : Program) (q qe : IntKind) (t k e : TypeId) : Prop where
  map : P.underlying t = some (.map k e)
  key : P.underlying k = some (.int q)
  elem : P.underlying e = some (.int qe)
  zero : ∀ w : World, (zeroValue e).run P w = .ok (.int qe 0) w

/-- Block 'b' is a map of at most 'n' entries that holds just what 'f' says. -/
def MapF (P : Program) (q qe : IntKind) (k e : TypeId) (w : World) (b n : Nat) (f : Int → Option Int) : Prop :=
  ∃ D : DataW Unit, w.ownsMap P k (plainElem P e) b n D ∧ Maps.IsMap D ∧ ∀ x, Maps.has D (.int q x) = (f x).isSome ∧ D.atKey (.int q x) (.lit (.int qe 0)) = .lit (.int qe ((f x).getD 0))
/-- 'f' with 'y' at 'x'. -/
def put (f : Int → Option Int) (x y : Int) : Int → Option Int := fun j => if j = x then some y else f j
theorem put_same (f : Int → Option Int) (x y : Int) : put f x y x = some y := if_pos rfl
theorem put_other (f : Int → Option Int) {x y j : Int} (h : j ≠ x) : put f x y j = f j := if_neg h

section
variable {P : Program} {q qe : IntKind} {t k e : TypeId} {w w' : World} {b n : Nat} {f : Int → Option Int}
theorem MapF.made (P : Program) (q qe : IntKind) (k e : TypeId) (w : World) : MapF P q qe k e (w.alloc (.map #[] 0)) w.heap.size 0 (fun _ => none) :=
  ⟨.map [], World.ownsMap_made _ _ _ _, ⟨[], rfl⟩, fun _ => ⟨rfl, rfl⟩⟩
theorem MapF.lt (h : MapF P q qe k e w b n f) : b < w.heap.size := by
  obtain ⟨D, h, _⟩ := h
  exact h.lt
theorem MapF.keep (h : MapF P q qe k e w b n f) (he : w'.heap[b]? = w.heap[b]?) : MapF P q qe k e w' b n f := by
  obtain ⟨D, ⟨es, c, h1, h2⟩, h3⟩ := h
  exact ⟨D, ⟨es, c, he.trans h1, h2⟩, h3⟩
theorem MapF.below {B : Nat} (h : MapF P q qe k e w b n f) (hb : Below B w w') (hB : b < B) : MapF P q qe k e w' b n f := h.keep (hb.block b hB)
theorem MapF.alloc (h : MapF P q qe k e w b n f) (o : Obj) : MapF P q qe k e (w.alloc o) b n f := h.keep (Below.heap_alloc w o b h.lt)
theorem MapF.drewN (h : MapF P q qe k e w b n f) (m : Nat) : MapF P q qe k e (w.drewN m) b n f := h
theorem MapF.setOther {g : Nat} (h : MapF P q qe k e w b n f) (hg : g ≠ b) (j : Nat) (d : Value) : MapF P q qe k e (w.setCell ⟨g, j, none⟩ d) b n f := h.keep (by
  show (w.heap.modify g _)[b]? = _
  rw [Array.getElem?_modify, if_neg hg])
theorem MapF.mono (h : MapF P q qe k e w b n f) {n' : Nat} (hn : n ≤ n') : MapF P q qe k e w b n' f := by
  obtain ⟨D, h1, h3⟩ := h
  exact ⟨D, h1.mono hn, h3⟩
/-- 'm[x]'. -/
theorem MapF.look (T : MapT P q qe t k e) (h : MapF P q qe k e w b n f) {x : Int} (hx : (Lit.int q x).wf = true) : Sem.run P (Instr.lookup t (.map (some b)) (.int q x) false) w = .ok (.int qe ((f x).getD 0)) w := by
  obtain ⟨D, h1, _, h3⟩ := h
  obtain ⟨c, hr, hat, _⟩ := h1.lookup_int (int_keyed T.key) T.map T.elem (T.zero w) (keyOf_int_mk T.key hx)
  rw [(h3 x).2] at hat
  injection hat with hat
  injection hat with _ hat
  rw [hat]; exact hr
theorem MapF.wf (T : MapT P q qe t k e) (h : MapF P q qe k e w b n f) {x : Int} (hx : (Lit.int q x).wf = true) : (Lit.int qe ((f x).getD 0)).wf = true := by
  obtain ⟨D, h1, _, h3⟩ := h
  obtain ⟨c, _, hat, hw⟩ := h1.lookup_int (int_keyed T.key) T.map T.elem (T.zero w) (keyOf_int_mk T.key hx)
  rw [(h3 x).2] at hat
  injection hat with hat
  injection hat with _ hat
  rw [hat]; exact hw
/-- 'v, ok := m[x]'. -/
theorem MapF.lookOk (T : MapT P q qe t k e) (h : MapF P q qe k e w b n f) {x : Int} (hx : (Lit.int q x).wf = true) : Sem.run P (Instr.lookup t (.map (some b)) (.int q x) true) w = .ok (.tuple #[.int qe ((f x).getD 0), .bool (f x).isSome]) w := by
  obtain ⟨D, h1, _, h3⟩ := h
  obtain ⟨v, ps, hr, hv⟩ := h1.look_ok (int_keyed T.key) T.map (T.zero w) (plainElem_int T.elem (by cases qe <;> decide)) (keyOf_int_mk T.key hx)
  obtain ⟨c, rfl, hc, _⟩ := plainElem_int_inv T.elem hv
  have hat := congrArg Prod.fst hc
  simp only at hat
  rw [(h3 x).2] at hat
  injection hat with hat
  injection hat with _ hat
  rw [hat, ← (h3 x).1]; exact hr
/-- 'm[x] = y'. -/
theorem MapF.store (T : MapT P q qe t k e) (h : MapF P q qe k e w b n f) (hn : n < maxLen) {x y : Int} (hx : (Lit.int q x).wf = true) (hy : (Lit.int qe y).wf = true) :
    ∃ w', Sem.run P (Instr.mapUpdate t (.map (some b)) (.int q x) (.int qe y)) w = .ok () w' ∧ MapF P q qe k e w' b (n + 1) (put f x y) ∧ w.grownBy w' (some b) := by
  obtain ⟨D, h1, h2, h3⟩ := h
  have hk := keyOf_int_mk (P := P) T.key hx
  obtain ⟨w', hr, ho, hg⟩ := h1.update (int_keyed T.key) T.map hn hk (plainElem_int T.elem hy)
  have hkl : WideAt.IsKeyLit (.int q x) := (int_keyed T.key).key hk
  refine ⟨w', hr, ⟨_, ho, h2.put _ _, fun j => ?_⟩, hg⟩
  by_cases hj : j = x
  · subst hj
    rw [Maps.has_put_same h2 hkl, Maps.atKey_put_same h2 hkl, put_same]
    exact ⟨rfl, rfl⟩
  · have hne : (Lit.int q j) ≠ .int q x := fun e => hj (by injection e)
    rw [Maps.has_put_other hne, Maps.atKey_put_other hne, put_other _ hj]
    exact h3 j
end
/-- 'm[x] = y' as a step of the walk ('insert': a literal's own). -/
theorem wpList_store_map {P : Program} {q qe : IntKind} {t k e : TypeId} (T : MapT P q qe t k e) (w : World) {ops : Array Oper} {rest : List Oper} {o : Oper} {a : Act} {Q : Exit → Act → World → Prop} (hgd : o.guard = none) (m x v : Operand) (hop : o.op = .mapUpdate t m x v)
    {b n : Nat} {f : Int → Option Int} {X Y : Int} (hm : a.eval m = .map (some b)) (hx : a.eval x = .int q X) (hv : a.eval v = .int qe Y) (h : MapF P q qe k e w b n f) (hn : n < maxLen) (wX : (Lit.int q X).wf = true) (wY : (Lit.int qe Y).wf = true)
    (hK : ∀ w', MapF P q qe k e w' b (n + 1) (put f X Y) → w.grownBy w' (some b) → wpList P ops Q rest (a.put o.dst undef) w') : wpList P ops Q (o :: rest) a w := by
  refine wpList_plain hgd fun K' hK' => ?_
  obtain ⟨w', hrun, r1, r2⟩ := h.store T hn wX wY
  unfold Oper.wp
  simp [execOp, hop, hm, hx, hv, hrun, Result.andThen]
  exact hK' _ _ (hK w' r1 r2)
theorem wpList_insert_map {P : Program} {q qe : IntKind} {t k e : TypeId} (T : MapT P q qe t k e) (w : World) {ops : Array Oper} {rest : List Oper} {o : Oper} {a : Act} {Q : Exit → Act → World → Prop} (hgd : o.guard = none) (m x v : Operand) (hop : o.op = .insert t m x v)
    {b n : Nat} {f : Int → Option Int} {X Y : Int} (hm : a.eval m = .map (some b)) (hx : a.eval x = .int q X) (hv : a.eval v = .int qe Y) (h : MapF P q qe k e w b n f) (hn : n < maxLen) (wX : (Lit.int q X).wf = true) (wY : (Lit.int qe Y).wf = true)
    (hK : ∀ w', MapF P q qe k e w' b (n + 1) (put f X Y) → w.grownBy w' (some b) → wpList P ops Q rest (a.put o.dst undef) w') : wpList P ops Q (o :: rest) a w := by
  refine wpList_plain hgd fun K' hK' => ?_
  obtain ⟨w', hrun, r1, r2⟩ := h.store T hn wX wY
  unfold Oper.wp
  simp [execOp, hop, hm, hx, hv, hrun, Result.andThen]
  exact hK' _ _ (hK w' r1 r2)
theorem grown_below {w w' : World} {b B : Nat} (h : w.grownBy w' (some b)) (hB : B ≤ b) (hs : B ≤ w.heap.size) : Below B w w' :=
  ⟨h.os, h.tape, h.output, h.size, fun i hi => h.block i (by omega) (by intro e; injection e; omega)⟩
theorem Box.grown {w w' : World} {g b : Nat} {t : TypeId} {cs : Array Value} (h : Box w g t cs) (hg : w.grownBy w' (some b)) (hne : g ≠ b) : Box w' g t cs := (hg.block g h.lt (by intro e; injection e; omega)).trans h
end Go.Proofs.Ytknbbondofijeaa
