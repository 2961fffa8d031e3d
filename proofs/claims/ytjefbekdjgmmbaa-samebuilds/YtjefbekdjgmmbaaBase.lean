/-
  Words and small facts on memory, over no program: a slice of integers that reads as a list of numbers ('Arr'), and a block that is known whole ('Whole').
-/
import Derived.WalkKit
import Derived.Below
import Derived.Lib.Hide
import Derived.Laws.OwnMore
import Derived.Laws.Rows
import Derived.Laws.CopyOwn
import Derived.Deep.Draws
import Derived.Deep.OwnRows
import Derived.Deep.QuietTactic
import Derived.BigQuiet
namespace Go.Proofs.Ytjefbekdjgmmbaa
open Go.RowKit

/-- Number 'j' of a list, 0 where there is none. A word of its own: the walk leaves it as it stands. -/
def nth (zs : List Int) (j : Nat) : Int := zs.getD j 0
theorem nth_get (zs : List Int) (j : Nat) (h : j < zs.length) : nth zs j = zs[j] := by simp [nth, h]

/-- The slice value ('A', 'n') reads in 'w' as the numbers 'zs', each fitting its kind, and lies below block 'B'. -/
def Arr (k : IntKind) (w : World) (B : Nat) (A : Option Addr) (n : Nat) (zs : List Int) : Prop :=
  zs.length = n ∧ (∀ z ∈ zs, (Lit.int k z).wf = true) ∧ (0 < n → ∃ b off, A = some ⟨b, off, none⟩ ∧ b < B ∧ ∀ j, j < n → w.cell? ⟨b, off + j, none⟩ = some (.int k (nth zs j)))

/-- Block 'g' is just the numbers 'zs', none frozen. -/
def Whole (k : IntKind) (t : TypeId) (w : World) (g : Nat) (zs : List Int) : Prop :=
  w.heap[g]? = some (.cells (zs.map (Value.int k)).toArray t (0, 0)) ∧ ∀ z ∈ zs, (Lit.int k z).wf = true

section
variable {k : IntKind} {t : TypeId} {w w' : World} {B B' g n : Nat} {A : Option Addr} {zs : List Int}
theorem Arr.keep (h : Arr k w B A n zs) (hk : ∀ p : Addr, p.block < B → w'.cell? p = w.cell? p) : Arr k w' B A n zs :=
  ⟨h.1, h.2.1, fun hn => by
    obtain ⟨b, off, e, hb, hc⟩ := h.2.2 hn
    exact ⟨b, off, e, hb, fun j hj => (hk _ hb).trans (hc j hj)⟩⟩
theorem Arr.below (h : Arr k w B A n zs) (hb : Below B' w w') (hB : B ≤ B') : Arr k w' B A n zs := h.keep fun _ hp => hb.cell (by omega)
theorem Arr.more (h : Arr k w B A n zs) (hB : B ≤ B') : Arr k w B' A n zs :=
  ⟨h.1, h.2.1, fun hn => by
    obtain ⟨b, off, e, hb, hc⟩ := h.2.2 hn
    exact ⟨b, off, e, by omega, hc⟩⟩
theorem Arr.drewN (h : Arr k w B A n zs) (q : Nat) : Arr k (w.drewN q) B A n zs := h
theorem Arr.zero : Arr k w B A 0 [] := ⟨rfl, (fun z hz => by cases hz), fun h => absurd h (by omega)⟩
theorem Whole.lt (h : Whole k t w g zs) : g < w.heap.size := by
  rcases Nat.lt_or_ge g w.heap.size with hlt | hge
  · exact hlt
  · have := h.1; rw [Array.getElem?_eq_none hge] at this; cases this
theorem Whole.cell (h : Whole k t w g zs) {j : Nat} (hj : j < zs.length) : w.cell? ⟨g, j, none⟩ = some (.int k (nth zs j)) := by
  rw [cell_of_row w g j _ t (0, 0) h.1]
  simp [nth, List.getElem?_map, List.getElem?_eq_getElem hj]
theorem Whole.frozen (h : Whole k t w g zs) (j : Nat) : w.frozen? ⟨g, j, none⟩ = false := by
  have := h.1
  simp [World.frozen?, this]
theorem Whole.arr (h : Whole k t w g zs) (hB : g < B) : Arr k w B (some ⟨g, 0, none⟩) zs.length zs :=
  ⟨rfl, h.2, fun _ => ⟨g, 0, rfl, hB, fun j hj => by rw [Nat.zero_add]; exact h.cell hj⟩⟩
theorem Whole.below (h : Whole k t w g zs) (hb : Below B w w') (hg : g < B) : Whole k t w' g zs := ⟨(hb.block g hg).trans h.1, h.2⟩
theorem Whole.set_ (h : Whole k t w g zs) (j : Nat) (z : Int) (hz : (Lit.int k z).wf = true) : Whole k t (w.setCell ⟨g, j, none⟩ (.int k z)) g (zs.set j z) := by
  refine ⟨?_, fun y hy => ?_⟩
  · have h1 := h.1
    simp [World.setCell, Array.getElem?_modify, h1, List.map_set]
  · rcases List.mem_or_eq_of_mem_set hy with h1 | h1
    · exact h.2 y h1
    · rw [h1]; exact hz
end
theorem whole_new (k : IntKind) (t : TypeId) (w : World) (zs : List Int) (hz : ∀ z ∈ zs, (Lit.int k z).wf = true) : Whole k t (w.alloc (.cells (zs.map (Value.int k)).toArray t)) w.heap.size zs := ⟨heap_alloc_new w _, hz⟩
theorem Whole.alloc {k : IntKind} {t : TypeId} {w : World} {g : Nat} {zs : List Int} (h : Whole k t w g zs) (o : Obj) : Whole k t (w.alloc o) g zs := ⟨(Below.heap_alloc w o g h.lt).trans h.1, h.2⟩
theorem whole_at (k : IntKind) (t : TypeId) {w : World} {g : Nat} (zs : List Int) (hz : ∀ z ∈ zs, (Lit.int k z).wf = true) (hg : w.heap.size = g) : Whole k t (w.alloc (.cells (zs.map (Value.int k)).toArray t)) g zs := hg ▸ whole_new k t w zs hz
theorem made_replicate (k : IntKind) (n : Nat) : madeCells #[Value.int k 0] n = ((List.replicate n (0 : Int)).map (Value.int k)).toArray := by
  apply Array.toList_inj.1
  rw [toList_madeCells_one]
  simp
theorem splice_all {α : Type} (L cs : List α) (h : L.length = cs.length) : splice L 0 cs = cs := by
  simp [splice, h]
theorem below_lt {B : Nat} {w w' : World} (h : Below B w w') {g : Nat} (hg : g < w.heap.size) : g < w'.heap.size := Nat.lt_of_lt_of_le hg h.size
/-- copy(dst, src) of 'n' numbers into a block that is known whole, from its place 'off' on (nil and empty slices let in). -/
theorem run_copy_ints {P : Program} {k : IntKind} {dT sT ty t : TypeId} (hu : P.underlying dT = some (.slice t)) (hs : (P.info? t).map (·.size) = some 1) {w : World} {B g off n dc sc : Nat} {dp sp : Option Addr} {cur src : List Int}
    (hW : Whole k t w g cur) (ha : Arr k w B sp n src) (hd : 0 < n → dp = some ⟨g, off, none⟩) (hfit : off + n ≤ cur.length) :
    Sem.run P (Builtin.copy_ #[dT, sT] ty #[.slice dp n dc, .slice sp n sc]) w = .ok (.int .i64 n) (w.setRow g ((splice cur off src).map (Value.int k)).toArray) := by
  obtain ⟨hl, hwf, hc⟩ := ha
  rcases Nat.eq_zero_or_pos n with h0 | h0
  · subst h0
    have hsrc : src = [] := List.eq_nil_of_length_eq_zero hl
    subst hsrc
    have h := run_copy_none (P := P) w dT sT ty t dp sp 0 dc 0 sc hu hs (by simp)
    rw [h]
    have e : splice cur off [] = cur := by simp [splice]
    rw [e, setRow_self w g _ t (0, 0) hW.1]
    rfl
  · obtain ⟨b, o, rfl, _, hcell⟩ := hc h0
    obtain rfl := hd h0
    have h := run_copy_row P w dT sT ty t g off n dc ⟨b, o, none⟩ n sc _ t (src.map (Value.int k)) hu hs hW.1 (by simp [hl]) ?_ (by simpa [hl] using hfit) ?_
    · rw [h]
      congr 2
      · simp [hl]
      · simp [splice, List.map_append, List.map_take, List.map_drop]
    · intro j v hj
      have hjl : j < n := by
        have := (List.getElem?_eq_some_iff.1 hj).1
        simpa [hl] using this
      have e : (⟨b, o, none⟩ : Addr).add j = ⟨b, o + j, none⟩ := by unfold Addr.add; split <;> simp_all
      rw [e, hcell j hjl, ← hj]
      simp [nth, List.getElem?_eq_getElem (by omega : j < src.length)]
    · intro v hv
      obtain ⟨z, _, rfl⟩ := List.mem_map.1 hv
      rfl
theorem mem_splice {α : Type} {L cs : List α} {off : Nat} {x : α} (h : x ∈ splice L off cs) : x ∈ L ∨ x ∈ cs := by
  unfold splice at h
  rcases List.mem_append.1 h with h | h
  · exact .inl (List.mem_of_mem_take h)
  · rcases List.mem_append.1 h with h | h
    · exact .inr h
    · exact .inl (List.mem_of_mem_drop h)
theorem Whole.setRow {k : IntKind} {t : TypeId} {w : World} {g : Nat} {zs ys : List Int} (h : Whole k t w g zs) (hy : ∀ z ∈ ys, (Lit.int k z).wf = true) : Whole k t (w.setRow g (ys.map (Value.int k)).toArray) g ys :=
  ⟨setRow_heap w g _ _ t _ h.1, hy⟩
/-- 'x[l:h]' of a slice, in whatever world: where it begins matters only if it holds something. -/
theorem run_cut {P : Program} {t e : TypeId} (ht : P.underlying t = some (.slice e)) (hs : (P.info? e).map (·.size) = some 1) (A : Option Addr) (len cap : Nat) (l h : Int) (p q : Nat) (hp : l = p) (hq : h = (p : Int) + q) (hc : p + q ≤ cap) :
    ∃ D, (∀ wx, Sem.run P (Instr.slice t (.slice A len cap) (some (.int .i64 l)) (some (.int .i64 h)) none) wx = .ok (.slice D q (cap - p)) wx) ∧ ∀ b off, A = some ⟨b, off, none⟩ → 0 < q → D = some ⟨b, off + p, none⟩ := by
  have he : P.elem t = e := by simp [Program.elem, ht]
  have ht' : P.underlying t = some (.slice (P.elem t)) := by rw [he]; exact ht
  refine ⟨if cap = p then A else A.map (·.add p), fun wx => ?_, fun b off hA hq0 => ?_⟩
  · rw [run_slice_lh wx t A len cap ht' .i64 .i64 l h (by omega) (by omega) (by omega)]
    cases hi : P.info? e with
    | none => simp [hi] at hs
    | some i =>
      have h1 : i.size = 1 := by simpa [hi] using hs
      have e1 : l.toNat = p := by omega
      have e2 : h.toNat = p + q := by omega
      simp [he, sizeOf, typeInfo, hi, h1, sliced, e1, e2]
  · subst hA
    rw [if_neg (by omega)]
    simp only [Option.map_some]
    congr 1
    unfold Addr.add
    split <;> simp_all
theorem Arr.cut {k : IntKind} {w : World} {B n : Nat} {A D : Option Addr} {zs : List Int} (h : Arr k w B A n zs) {p q : Nat} (hpq : p + q ≤ n) (hD : ∀ b off, A = some ⟨b, off, none⟩ → 0 < q → D = some ⟨b, off + p, none⟩) : Arr k w B D q ((zs.drop p).take q) := by
  obtain ⟨hl, hw, hc⟩ := h
  refine ⟨by simp; omega, fun z hz => hw z (List.mem_of_mem_drop (List.mem_of_mem_take hz)), fun hq => ?_⟩
  obtain ⟨b, off, rfl, hb, hcell⟩ := hc (by omega)
  refine ⟨b, off + p, hD b off rfl hq, hb, fun j hj => ?_⟩
  rw [Nat.add_assoc, hcell (p + j) (by omega)]
  simp [nth, hj, List.getElem?_drop]
/-- A slice of integers as it comes in. -/
theorem arr_of_row {k : IntKind} {w : World} {a : Option Addr} {len cap : Nat} {zs : List Int}
    (h : (a = none ∧ len = 0 ∧ cap = 0 ∧ zs = []) ∨ ∃ x, a = some x ∧ len ≤ cap ∧ cap ≤ maxLen ∧ zs.length = cap ∧ (∀ i, i < zs.length → w.cell? (x.add i) = some (.int k (zs.getD i 0))) ∧ ∀ n ∈ zs, (Lit.int k n).wf = true) :
    len ≤ maxLen ∧ len ≤ cap ∧ Arr k w w.heap.size a len (zs.take len) := by
  rcases h with ⟨rfl, rfl, rfl, rfl⟩ | ⟨x, rfl, hl, hm, hz, hcell, hwz⟩
  · exact ⟨Nat.zero_le _, Nat.le_refl _, Arr.zero⟩
  · refine ⟨Nat.le_trans hl hm, hl, by simp; omega, fun z h => hwz z (List.mem_of_mem_take h), fun h0 => ?_⟩
    obtain ⟨b, off, spot⟩ := x
    have hc := hcell 0 (by omega)
    have hspot : spot = none := by simpa [Addr.add] using World.cell?_spot hc
    subst hspot
    have hadd : ∀ j, (⟨b, off, none⟩ : Addr).add j = ⟨b, off + j, none⟩ := fun j => by unfold Addr.add; split <;> simp_all
    refine ⟨b, off, rfl, ?_, fun j hj => ?_⟩
    · rw [hadd] at hc
      rcases Nat.lt_or_ge b w.heap.size with h | h
      · exact h
      · simp [World.cell?, Array.getElem?_eq_none h] at hc
    · rw [← hadd, hcell j (by omega)]
      simp [nth, hj]
theorem lit_le (z : Int) (N : Nat) (h : 0 ≤ z ∧ z ≤ N) : ∃ k : Nat, k ≤ N ∧ Value.int .i64 z = .int .i64 k := ⟨z.toNat, by omega, by rw [Int.toNat_of_nonneg h.1]⟩
theorem below_drewN {B : Nat} {a w : World} (h : Below B a w) (n : Nat) : Below B a (w.drewN n) := ⟨h.os, h.tape, h.output, h.size, h.block⟩
theorem wf_u64 {z : Int} : (Lit.int .u64 z).wf = true ↔ 0 ≤ z ∧ z ≤ 18446744073709551615 := by
  simp [Lit.wf, IntKind.min, IntKind.max, IntKind.signed, IntKind.bits]
theorem wf_i64 {z : Int} : (Lit.int .i64 z).wf = true ↔ -9223372036854775808 ≤ z ∧ z ≤ 9223372036854775807 := by
  simp [Lit.wf, IntKind.min, IntKind.max, IntKind.signed, IntKind.bits]
end Go.Proofs.Ytjefbekdjgmmbaa
