/-
  Parts of the proof of SameForms: WalkM, LayM.
-/
import Derived.Maps.OwnSet
import Derived.Maps.OwnOps
import Derived.Laws.OwnMore
import Derived.Deep.AppendLies
import Derived.Deep.RegionHeld3
import Derived.Test.YtjefbekdjgmmbaaSameFormsAb
namespace Go.Proofs.Ytjefbekdjgmmbaa
open Go.RowKit
/-- Is 'n' from 0 to 'm'? A closed word: the walk leaves it. -/
def within (n m : Int) : Bool := decide (0 ≤ n) && decide (n ≤ m)
theorem within_true {n m : Int} (h0 : 0 ≤ n) (h1 : n ≤ m) : within n m = true := by simp [within, h0, h1]
theorem within_low {n m : Int} (h0 : n < 0) : within n m = false := by simp [within]; omega
theorem within_high {n m : Int} (h0 : m < n) : within n m = false := by simp [within]; omega
theorem within_iff {n m : Int} : within n m = true ↔ 0 ≤ n ∧ n ≤ m := by simp [within]
/-- The error of a header. -/
def hFault (r b t : Int) (f : Bool) : Int :=
  if within r 256 && within b 256 && within t 65535 then (if f && (r != 0 || t != 0) then 3 else if 256 < 1 + r + b then 2 else 0) else 4
theorem hFault_r {r b t : Int} {f : Bool} (h : within r 256 = false) : hFault r b t f = 4 := by simp [hFault, h]
theorem hFault_b {r b t : Int} {f : Bool} (h : within b 256 = false) : hFault r b t f = 4 := by simp [hFault, h]
theorem hFault_t {r b t : Int} {f : Bool} (h : within t 65535 = false) : hFault r b t f = 4 := by simp [hFault, h]
theorem hFault_fr {r b t : Int} (h0 : within r 256 = true) (h1 : within b 256 = true) (h2 : within t 65535 = true) (h : r ≠ 0 ∨ t ≠ 0) : hFault r b t true = 3 := by
  simp [hFault, h0, h1, h2]; omega
theorem hFault_in {r b t : Int} {f : Bool} (h0 : within r 256 = true) (h1 : within b 256 = true) (h2 : within t 65535 = true) (h : f = true → r = 0 ∧ t = 0) : hFault r b t f = if 256 < 1 + r + b then 2 else 0 := by
  cases f
  · simp [hFault, h0, h1, h2]
  · obtain ⟨rfl, rfl⟩ := h rfl
    simp [hFault, h0, h1, h2]
theorem hFault_ok {r b t : Int} {f : Bool} (h : hFault r b t f = 0) : 0 ≤ r ∧ 0 ≤ b ∧ 0 ≤ t ∧ t ≤ 65535 ∧ r + b ≤ 255 ∧ (f = true → r = 0 ∧ t = 0) := by
  unfold hFault at h
  split at h
  · rename_i hw
    simp only [Bool.and_eq_true, within_iff] at hw
    split at h
    · cases h
    · rename_i hf
      split at h
      · cases h
      · simp at hf
        refine ⟨by omega, by omega, by omega, by omega, by omega, fun e => hf e⟩
  · cases h
/-- The word of a header. -/
def hWord (r b t : Int) (f : Bool) : Int := r + 65536 * b + 4294967296 * t + if f then 281474976710656 else 0
/-- The fields of a word. -/
def fR (v : Int) : Int := v % 65536
def fB (v : Int) : Int := v / 65536 % 65536
def fT (v : Int) : Int := v / 4294967296 % 65536
def fF (v : Int) : Bool := decide (v / 281474976710656 = 1)
/-- What is wrong with a word: is it the word of no header? -/
def vBad (v : Int) : Bool := decide (1 < v / 281474976710656) || hFault (fR v) (fB v) (fT v) (fF v) != 0
def vR (v : Int) : Int := if vBad v then 0 else fR v
def vB (v : Int) : Int := if vBad v then 0 else fB v
def vT (v : Int) : Int := if vBad v then 0 else fT v
def vF (v : Int) : Bool := if vBad v then false else fF v
theorem hWord_wf {r b t : Int} {f : Bool} (h : hFault r b t f = 0) : 0 ≤ hWord r b t f ∧ hWord r b t f < 18446744073709551616 := by
  obtain ⟨h1, h2, h3, h4, h5, h6⟩ := hFault_ok h
  unfold hWord
  split <;> omega
theorem fields_of_word {r b t : Int} {f : Bool} (h : hFault r b t f = 0) : fR (hWord r b t f) = r ∧ fB (hWord r b t f) = b ∧ fT (hWord r b t f) = t ∧ fF (hWord r b t f) = f ∧ ¬ 1 < hWord r b t f / 281474976710656 := by
  obtain ⟨h1, h2, h3, h4, h5, h6⟩ := hFault_ok h
  unfold fR fB fT fF hWord
  cases f
  · refine ⟨by simp; omega, by simp; omega, by simp; omega, by simp; omega, by simp; omega⟩
  · refine ⟨by simp; omega, by simp; omega, by simp; omega, by simp; omega, by simp; omega⟩
theorem word_of_header {r b t : Int} {f : Bool} (h : hFault r b t f = 0) : vBad (hWord r b t f) = false ∧ vR (hWord r b t f) = r ∧ vB (hWord r b t f) = b ∧ vT (hWord r b t f) = t ∧ vF (hWord r b t f) = f := by
  obtain ⟨h1, h2, h3, h4, h5⟩ := fields_of_word h
  have hb : vBad (hWord r b t f) = false := by
    unfold vBad
    rw [h1, h2, h3, h4, h]
    simp; omega
  exact ⟨hb, by unfold vR; rw [hb, h1]; rfl, by unfold vB; rw [hb, h2]; rfl, by unfold vT; rw [hb, h3]; rfl, by unfold vF; rw [hb, h4]; rfl⟩
theorem header_of_word {v : Int} (h0 : 0 ≤ v) (h : vBad v = false) : hFault (vR v) (vB v) (vT v) (vF v) = 0 ∧ hWord (vR v) (vB v) (vT v) (vF v) = v := by
  have h' := h
  unfold vBad at h'
  simp only [Bool.or_eq_false_iff, decide_eq_false_iff_not, bne_eq_false_iff_eq] at h'
  have e1 : vR v = fR v := by unfold vR; rw [h]; rfl
  have e2 : vB v = fB v := by unfold vB; rw [h]; rfl
  have e3 : vT v = fT v := by unfold vT; rw [h]; rfl
  have e4 : vF v = fF v := by unfold vF; rw [h]; rfl
  rw [e1, e2, e3, e4]
  refine ⟨h'.2, ?_⟩
  unfold hWord fR fB fT fF
  by_cases hc : v / 281474976710656 = 1
  · simp [hc]; omega
  · simp [hc]; omega
theorem header_none {v : Int} (h : vBad v = true) : vR v = 0 ∧ vB v = 0 ∧ vT v = 0 ∧ vF v = false := by
  refine ⟨by unfold vR; rw [h]; rfl, by unfold vB; rw [h]; rfl, by unfold vT; rw [h]; rfl, by unfold vF; rw [h]; rfl⟩
/-- A spot: where, and the header's fields. -/
abbrev Sp := Int × Int × Int × Int × Bool
def spotC (s : Sp) : List Value := [.int .i64 s.1, .int .i64 s.2.1, .int .i64 s.2.2.1, .int .i64 s.2.2.2.1, .bool s.2.2.2.2]
theorem spotC_len (s : Sp) : (spotC s).length = 5 := rfl
theorem spotC_one (s : Sp) : ∀ u ∈ spotC s, u.oneCell' = true := by
  intro u hu
  simp [spotC] at hu
  rcases hu with rfl | rfl | rfl | rfl | rfl <;> rfl
/-- How many words an object with this header has. -/
def sLong (v : Int) : Nat := 1 + (vR v).toNat + (vB v).toNat
theorem sLong_pos (v : Int) : 0 < sLong v := by unfold sLong; omega
def spOf (zs : List Int) (a : Nat) : Sp := ((a : Int), vR (nth zs a), vB (nth zs a), vT (nth zs a), vF (nth zs a))
/-- Is word 'a' a header, and does its object end within the arena? -/
def stepOk (zs : List Int) (a : Nat) : Bool := !vBad (nth zs a) && decide (a + sLong (nth zs a) ≤ zs.length)
/-- Where objects begin, from word 'a' on. -/
def begins (zs : List Int) (a : Nat) : List Nat := if a < zs.length then (if stepOk zs a then a :: begins zs (a + sLong (nth zs a)) else []) else []
termination_by zs.length - a
decreasing_by have := sLong_pos (nth zs a); omega
/-- Do objects fill the arena, from word 'a' on? -/
def fine (zs : List Int) (a : Nat) : Bool := if a < zs.length then (if stepOk zs a then fine zs (a + sLong (nth zs a)) else false) else true
termination_by zs.length - a
decreasing_by have := sLong_pos (nth zs a); omega
def spErr (zs : List Int) : Int := if 256 < zs.length then 2 else if fine zs 0 then 0 else 3
def spList (zs : List Int) : List Sp := if spErr zs = 0 then (begins zs 0).map (spOf zs) else []
section
variable {zs : List Int} {a : Nat}
theorem begins_end (h : zs.length ≤ a) : begins zs a = [] := by rw [begins, if_neg (by omega)]
theorem fine_end (h : zs.length ≤ a) : fine zs a = true := by rw [fine, if_neg (by omega)]
theorem begins_step (h : a < zs.length) (hs : stepOk zs a = true) : begins zs a = a :: begins zs (a + sLong (nth zs a)) := by rw [begins, if_pos h, if_pos hs]
theorem fine_step (h : a < zs.length) (hs : stepOk zs a = true) : fine zs a = fine zs (a + sLong (nth zs a)) := by rw [fine, if_pos h, if_pos hs]
theorem fine_bad (h : a < zs.length) (hs : stepOk zs a = false) : fine zs a = false := by rw [fine, if_pos h, hs]; rfl
theorem stepOk_iff : stepOk zs a = true ↔ vBad (nth zs a) = false ∧ a + sLong (nth zs a) ≤ zs.length := by simp [stepOk]
theorem stepOk_bad (h : vBad (nth zs a) = true) : stepOk zs a = false := by simp [stepOk, h]
theorem stepOk_far (h : zs.length < a + sLong (nth zs a)) : stepOk zs a = false := by simp [stepOk]; omega
theorem begins_mem : ∀ {a : Nat} {s : Nat}, s ∈ begins zs a → a ≤ s ∧ s < zs.length ∧ stepOk zs s = true := by
  intro a
  induction hk : zs.length - a using Nat.strongRecOn generalizing a with
  | ind k ih =>
    intro s hs
    by_cases h : a < zs.length
    · cases hst : stepOk zs a
      · rw [begins, if_pos h, hst] at hs; simp at hs
      · rw [begins_step h hst] at hs
        rcases List.mem_cons.1 hs with rfl | hs
        · exact ⟨Nat.le_refl _, h, hst⟩
        · have hp := sLong_pos (nth zs a)
          have := ih (zs.length - (a + sLong (nth zs a))) (by omega) rfl hs
          exact ⟨by omega, this.2⟩
    · rw [begins_end (by omega)] at hs; cases hs
theorem begins_sorted : ∀ {a : Nat}, (begins zs a).Pairwise (· < ·) := by
  intro a
  induction hk : zs.length - a using Nat.strongRecOn generalizing a with
  | ind k ih =>
    by_cases h : a < zs.length
    · cases hst : stepOk zs a
      · rw [begins, if_pos h, hst]; simp
      · rw [begins_step h hst]
        have hp := sLong_pos (nth zs a)
        refine List.pairwise_cons.2 ⟨fun s hs => ?_, ih (zs.length - (a + sLong (nth zs a))) (by omega) rfl⟩
        have := (begins_mem hs).1
        omega
    · rw [begins_end (by omega)]; exact List.Pairwise.nil
theorem begins_len : ∀ {a : Nat}, (begins zs a).length ≤ zs.length - a := by
  intro a
  induction hk : zs.length - a using Nat.strongRecOn generalizing a with
  | ind k ih =>
    by_cases h : a < zs.length
    · cases hst : stepOk zs a
      · rw [begins, if_pos h, hst]; simp
      · rw [begins_step h hst]
        have hp := sLong_pos (nth zs a)
        have := ih (zs.length - (a + sLong (nth zs a))) (by omega) rfl
        simp only [List.length_cons]
        omega
    · rw [begins_end (by omega)]; simp
theorem spErr_big (h : 256 < zs.length) : spErr zs = 2 := by simp [spErr, h]
theorem spErr_ok (h : zs.length ≤ 256) (hf : fine zs 0 = true) : spErr zs = 0 := by simp [spErr, hf]; omega
theorem spErr_bad (h : zs.length ≤ 256) (hf : fine zs 0 = false) : spErr zs = 3 := by simp [spErr, hf]; omega
theorem spErr_zero (h : spErr zs = 0) : zs.length ≤ 256 ∧ fine zs 0 = true := by
  unfold spErr at h
  split at h
  · cases h
  · split at h
    · rename_i h1 h2; exact ⟨by omega, h2⟩
    · cases h
theorem spList_bad (h : spErr zs ≠ 0) : spList zs = [] := by simp [spList, h]
theorem spList_ok (h : spErr zs = 0) : spList zs = (begins zs 0).map (spOf zs) := by simp [spList, h]
/-- A word that is a header: its fields. -/
theorem head_fields {v : Int} (h0 : 0 ≤ v) (h : vBad v = false) : 0 ≤ vR v ∧ 0 ≤ vB v ∧ 0 ≤ vT v ∧ vT v ≤ 65535 ∧ vR v + vB v ≤ 255 ∧ (vF v = true → vR v = 0 ∧ vT v = 0) ∧ hFault (vR v) (vB v) (vT v) (vF v) = 0 := by
  have h1 := (header_of_word h0 h).1
  obtain ⟨a1, a2, a3, a4, a5, a6⟩ := hFault_ok h1
  exact ⟨a1, a2, a3, a4, a5, a6, h1⟩
theorem sLong_int {v : Int} (h0 : 0 ≤ v) (h : vBad v = false) : (sLong v : Int) = 1 + vR v + vB v := by
  obtain ⟨a1, a2, _⟩ := head_fields h0 h
  unfold sLong
  omega
end
/-- Block 'g' is just the cells 'cs', none frozen. -/
def Box (w : World) (g : Nat) (t : TypeId) (cs : Array Value) : Prop := w.heap[g]? = some (.cells cs t (0, 0))
section
variable {w w' : World} {g B : Nat} {t : TypeId} {cs : Array Value}
theorem Box.new (w : World) (t : TypeId) (cs : Array Value) : Box (w.alloc (.cells cs t)) w.heap.size t cs := by
  show (w.heap.push _)[w.heap.size]? = _
  simp
theorem Box.lt (h : Box w g t cs) : g < w.heap.size := by
  rcases Nat.lt_or_ge g w.heap.size with hlt | hge
  · exact hlt
  · have := h; unfold Box at this; rw [Array.getElem?_eq_none hge] at this; cases this
theorem Box.below (h : Box w g t cs) (hb : Below B w w') (hg : g < B) : Box w' g t cs := (hb.block g hg).trans h
theorem Box.alloc (h : Box w g t cs) (o : Obj) : Box (w.alloc o) g t cs := (Below.heap_alloc w o g h.lt).trans h
theorem Box.cell (h : Box w g t cs) (j : Nat) : w.cell? ⟨g, j, none⟩ = cs[j]? := by
  unfold Box at h
  rw [cell_of_row w g _ _ t (0, 0) h]
theorem Box.soft (h : Box w g t cs) (j : Nat) : w.frozen? ⟨g, j, none⟩ = false := by
  unfold Box at h
  simp [World.frozen?, h]
theorem Box.set (h : Box w g t cs) (j : Nat) (d : Value) : Box (w.setCell ⟨g, j, none⟩ d) g t (cs.setIfInBounds j d) := by
  unfold Box at *
  simp [World.setCell, Array.getElem?_modify, h]
/-- A block that was laid ahead of a call. -/
theorem boxed_call (h : Below (w.alloc (.cells cs t)).heap.size (w.alloc (.cells cs t)) w') : Box w' w.heap.size t cs ∧ Below w.heap.size w w' :=
  have n0 := Box.new w t cs
  ⟨n0.below h n0.lt, ((Below.refl _ w).alloc (Nat.le_refl _) _).trans (h.mono (Nat.le_of_lt n0.lt))⟩
theorem Box.set4 {c0 c1 c2 c3 : Value} (h : Box w g t #[c0, c1, c2, c3]) (d0 d1 d2 d3 : Value) :
    Box ((((w.setCell ⟨g, 0, none⟩ d0).setCell ⟨g, 1, none⟩ d1).setCell ⟨g, 2, none⟩ d2).setCell ⟨g, 3, none⟩ d3) g t #[d0, d1, d2, d3] := by
  unfold Box at *
  simp [World.setCell, Array.getElem?_modify, h]
end
theorem below_of_drew {B : Nat} {a w : World} (h : Below B a.drew w) : Below B a w := ⟨h.os, h.tape, h.output, h.size, h.block⟩
theorem below_set {B : Nat} {a w : World} (h : Below B a w) {g : Nat} (hg : B ≤ g) (j : Nat) (d : Value) : Below B a (w.setCell ⟨g, j, none⟩ d) :=
  ⟨h.os, h.tape, h.output, by have := h.size; simpa [World.setCell] using this, fun i hi => by
    rw [← h.block i hi]
    show (w.heap.modify g _)[i]? = _
    rw [Array.getElem?_modify, if_neg (by omega)]⟩
theorem ArrG.spot {w : World} {B n : Nat} {A : Option Addr} {l : List Sp} (h : ArrG spotC 5 w B A n l) {j : Nat} (hj : j < n) :
    ∃ b off, A = some ⟨b, off, none⟩ ∧ b < B ∧ w.cell? ⟨b, off + j * 5, none⟩ = some (.int .i64 (nthG l j).1) ∧ w.cell? ⟨b, off + j * 5 + 1, none⟩ = some (.int .i64 (nthG l j).2.1) ∧ w.cell? ⟨b, off + j * 5 + 2, none⟩ = some (.int .i64 (nthG l j).2.2.1) ∧
      w.cell? ⟨b, off + j * 5 + 3, none⟩ = some (.int .i64 (nthG l j).2.2.2.1) ∧ w.cell? ⟨b, off + j * 5 + 4, none⟩ = some (.bool (nthG l j).2.2.2.2) := by
  obtain ⟨b, off, e, hb, hc⟩ := h.at_ hj
  exact ⟨b, off, e, hb, hc 0 (by omega), hc 1 (by omega), hc 2 (by omega), hc 3 (by omega), hc 4 (by omega)⟩
theorem nthG_map {α β : Type} [Inhabited α] [Inhabited β] (f : α → β) (l : List α) (j : Nat) (h : j < l.length) : nthG (l.map f) j = f (nthG l j) := by
  rw [nthG_get _ _ (by simpa using h), nthG_get _ _ h, List.getElem_map]
/-- 'x[p:]'. -/
theorem run_from {P : Program} {t e : TypeId} (ht : P.underlying t = some (.slice e)) (hs : (P.info? e).map (·.size) = some 1) (A : Option Addr) (len cap p : Nat) (l : Int) (hl : l = p) (hp : p ≤ len) (hc : len ≤ cap) :
    ∃ D, (∀ wx, Sem.run P (Instr.slice t (.slice A len cap) (some (.int .i64 l)) none none) wx = .ok (.slice D (len - p) (cap - p)) wx) ∧ ∀ b off, A = some ⟨b, off, none⟩ → 0 < len - p → D = some ⟨b, off + p, none⟩ := by
  have he : P.elem t = e := by simp [Program.elem, ht]
  have ht' : P.underlying t = some (.slice (P.elem t)) := by rw [he]; exact ht
  refine ⟨if cap = p then A else A.map (·.add p), fun wx => ?_, fun b off hA hq0 => ?_⟩
  · rw [run_slice_l wx t A len cap ht' .i64 l (by omega) (by omega)]
    cases hi : P.info? e with
    | none => simp [hi] at hs
    | some i =>
      have h1 : i.size = 1 := by simpa [hi] using hs
      have e1 : l.toNat = p := by omega
      simp [he, sizeOf, typeInfo, hi, h1, sliced, e1]
  · subst hA
    rw [if_neg (by omega)]
    simp only [Option.map_some]
    congr 1
    unfold Addr.add
    split <;> simp_all
/-- 'x[:q]'. -/
theorem run_upto {P : Program} {t e : TypeId} (ht : P.underlying t = some (.slice e)) (hs : (P.info? e).map (·.size) = some 1) (A : Option Addr) (len cap q : Nat) (h : Int) (hh : h = q) (hc : q ≤ cap) :
    ∃ D, (∀ wx, Sem.run P (Instr.slice t (.slice A len cap) none (some (.int .i64 h)) none) wx = .ok (.slice D q cap) wx) ∧ ∀ b off, A = some ⟨b, off, none⟩ → D = some ⟨b, off, none⟩ := by
  have he : P.elem t = e := by simp [Program.elem, ht]
  have ht' : P.underlying t = some (.slice (P.elem t)) := by rw [he]; exact ht
  refine ⟨if cap = 0 then A else A.map (·.add 0), fun wx => ?_, fun b off hA => ?_⟩
  · rw [run_slice_h wx t A len cap ht' .i64 h (by omega) (by omega)]
    cases hi : P.info? e with
    | none => simp [hi] at hs
    | some i =>
      have h1 : i.size = 1 := by simpa [hi] using hs
      have e1 : h.toNat = q := by omega
      simp [he, sizeOf, typeInfo, hi, h1, sliced, e1]
  · subst hA
    split
    · rfl
    · simp [Addr.add]
/-- 'x[p:][:q]': the two in one. -/
theorem Arr.cut2 {k : IntKind} {w : World} {B n : Nat} {A D E : Option Addr} {zs : List Int} (h : Arr k w B A n zs) {p q : Nat} (hpq : p + q ≤ n) (hD : ∀ b off, A = some ⟨b, off, none⟩ → 0 < n - p → D = some ⟨b, off + p, none⟩) (hE : ∀ b off, D = some ⟨b, off, none⟩ → E = some ⟨b, off, none⟩) :
    Arr k w B E q ((zs.drop p).take q) :=
  h.cut hpq fun b off hA hq => hE _ _ (hD b off hA (by omega))
open Go.Maps (Keyed int_keyed keyOf_int_mk)
/-- What is known of a map type's parts. -/
structure MapT (P : Program) (q qe : IntKind) (t k e : TypeId) : Prop where
  map : P.underlying t = some (.map k e)
  key : P.underlying k = some (.int q)
  elem : P.underlying e = some (.int qe)
  zero : ∀ w : World, (zeroValue e).run P w = .ok (.int qe 0) w
/-- Block 'b' is a map of at most 'n' entries that holds just what 'f' says. -/
def MapF (P : Program) (q qe : IntKind) (k e : TypeId) (w : World) (b n : Nat) (f : Int → Option Int) : Prop :=
  ∃ D : DataW Unit, w.ownsMap P k (plainElem P e) b n D ∧ Maps.IsMap D ∧ ∀ x, Maps.has D (.int q x) = (f x).isSome ∧ D.atKey (.int q x) (.lit (.int qe 0)) = .lit (.int qe ((f x).getD 0))
/-- 'f' with 'y' at 'x'. -/
def put (f : Int → Option Int) (x y : Int) : Int → Option Int := fun j => if j = x then some y else f j
theorem put_same (f : Int → Option Int) (x y : Int) : put f x y x = some y := if_pos rfl
theorem put_other (f : Int → Option Int) {x y j : Int} (h : j ≠ x) : put f x y j = f j := if_neg h
section
variable {P : Program} {q qe : IntKind} {t k e : TypeId} {w w' : World} {b n : Nat} {f : Int → Option Int}
theorem MapF.made (P : Program) (q qe : IntKind) (k e : TypeId) (w : World) : MapF P q qe k e (w.alloc (.map #[] 0)) w.heap.size 0 (fun _ => none) :=
  ⟨.map [], World.ownsMap_made _ _ _ _, ⟨[], rfl⟩, fun _ => ⟨rfl, rfl⟩⟩
theorem MapF.lt (h : MapF P q qe k e w b n f) : b < w.heap.size := by
  obtain ⟨D, h, _⟩ := h
  exact h.lt
theorem MapF.keep (h : MapF P q qe k e w b n f) (he : w'.heap[b]? = w.heap[b]?) : MapF P q qe k e w' b n f := by
  obtain ⟨D, ⟨es, c, h1, h2⟩, h3⟩ := h
  exact ⟨D, ⟨es, c, he.trans h1, h2⟩, h3⟩
theorem MapF.below {B : Nat} (h : MapF P q qe k e w b n f) (hb : Below B w w') (hB : b < B) : MapF P q qe k e w' b n f := h.keep (hb.block b hB)
theorem MapF.alloc (h : MapF P q qe k e w b n f) (o : Obj) : MapF P q qe k e (w.alloc o) b n f := h.keep (Below.heap_alloc w o b h.lt)
theorem MapF.drewN (h : MapF P q qe k e w b n f) (m : Nat) : MapF P q qe k e (w.drewN m) b n f := h
theorem MapF.setOther {g : Nat} (h : MapF P q qe k e w b n f) (hg : g ≠ b) (j : Nat) (d : Value) : MapF P q qe k e (w.setCell ⟨g, j, none⟩ d) b n f := h.keep (by
  show (w.heap.modify g _)[b]? = _
  rw [Array.getElem?_modify, if_neg hg])
theorem MapF.mono (h : MapF P q qe k e w b n f) {n' : Nat} (hn : n ≤ n') : MapF P q qe k e w b n' f := by
  obtain ⟨D, h1, h3⟩ := h
  exact ⟨D, h1.mono hn, h3⟩
/-- 'm[x]'. -/
theorem MapF.look (T : MapT P q qe t k e) (h : MapF P q qe k e w b n f) {x : Int} (hx : (Lit.int q x).wf = true) : Sem.run P (Instr.lookup t (.map (some b)) (.int q x) false) w = .ok (.int qe ((f x).getD 0)) w := by
  obtain ⟨D, h1, _, h3⟩ := h
  obtain ⟨c, hr, hat, _⟩ := h1.lookup_int (int_keyed T.key) T.map T.elem (T.zero w) (keyOf_int_mk T.key hx)
  rw [(h3 x).2] at hat
  injection hat with hat
  injection hat with _ hat
  rw [hat]; exact hr
theorem MapF.wf (T : MapT P q qe t k e) (h : MapF P q qe k e w b n f) {x : Int} (hx : (Lit.int q x).wf = true) : (Lit.int qe ((f x).getD 0)).wf = true := by
  obtain ⟨D, h1, _, h3⟩ := h
  obtain ⟨c, _, hat, hw⟩ := h1.lookup_int (int_keyed T.key) T.map T.elem (T.zero w) (keyOf_int_mk T.key hx)
  rw [(h3 x).2] at hat
  injection hat with hat
  injection hat with _ hat
  rw [hat]; exact hw
/-- 'v, ok := m[x]'. -/
theorem MapF.lookOk (T : MapT P q qe t k e) (h : MapF P q qe k e w b n f) {x : Int} (hx : (Lit.int q x).wf = true) : Sem.run P (Instr.lookup t (.map (some b)) (.int q x) true) w = .ok (.tuple #[.int qe ((f x).getD 0), .bool (f x).isSome]) w := by
  obtain ⟨D, h1, _, h3⟩ := h
  obtain ⟨v, ps, hr, hv⟩ := h1.look_ok (int_keyed T.key) T.map (T.zero w) (plainElem_int T.elem (by cases qe <;> decide)) (keyOf_int_mk T.key hx)
  obtain ⟨c, rfl, hc, _⟩ := plainElem_int_inv T.elem hv
  have hat := congrArg Prod.fst hc
  simp only at hat
  rw [(h3 x).2] at hat
  injection hat with hat
  injection hat with _ hat
  rw [hat, ← (h3 x).1]; exact hr
/-- 'm[x] = y'. -/
theorem MapF.store (T : MapT P q qe t k e) (h : MapF P q qe k e w b n f) (hn : n < maxLen) {x y : Int} (hx : (Lit.int q x).wf = true) (hy : (Lit.int qe y).wf = true) :
    ∃ w', Sem.run P (Instr.mapUpdate t (.map (some b)) (.int q x) (.int qe y)) w = .ok () w' ∧ MapF P q qe k e w' b (n + 1) (put f x y) ∧ w.grownBy w' (some b) := by
  obtain ⟨D, h1, h2, h3⟩ := h
  have hk := keyOf_int_mk (P := P) T.key hx
  obtain ⟨w', hr, ho, hg⟩ := h1.update (int_keyed T.key) T.map hn hk (plainElem_int T.elem hy)
  have hkl : WideAt.IsKeyLit (.int q x) := (int_keyed T.key).key hk
  refine ⟨w', hr, ⟨_, ho, h2.put _ _, fun j => ?_⟩, hg⟩
  by_cases hj : j = x
  · subst hj
    rw [Maps.has_put_same h2 hkl, Maps.atKey_put_same h2 hkl, put_same]
    exact ⟨rfl, rfl⟩
  · have hne : (Lit.int q j) ≠ .int q x := fun e => hj (by injection e)
    rw [Maps.has_put_other hne, Maps.atKey_put_other hne, put_other _ hj]
    exact h3 j
end
/-- 'm[x] = y' as a step of the walk ('insert': a literal's own). -/
theorem wpList_store_map {P : Program} {q qe : IntKind} {t k e : TypeId} (T : MapT P q qe t k e) (w : World) {ops : Array Oper} {rest : List Oper} {o : Oper} {a : Act} {Q : Exit → Act → World → Prop} (hgd : o.guard = none) (m x v : Operand) (hop : o.op = .mapUpdate t m x v)
    {b n : Nat} {f : Int → Option Int} {X Y : Int} (hm : a.eval m = .map (some b)) (hx : a.eval x = .int q X) (hv : a.eval v = .int qe Y) (h : MapF P q qe k e w b n f) (hn : n < maxLen) (wX : (Lit.int q X).wf = true) (wY : (Lit.int qe Y).wf = true)
    (hK : ∀ w', MapF P q qe k e w' b (n + 1) (put f X Y) → w.grownBy w' (some b) → wpList P ops Q rest (a.put o.dst undef) w') : wpList P ops Q (o :: rest) a w := by
  refine wpList_plain hgd fun K' hK' => ?_
  obtain ⟨w', hrun, r1, r2⟩ := h.store T hn wX wY
  unfold Oper.wp
  simp [execOp, hop, hm, hx, hv, hrun, Result.andThen]
  exact hK' _ _ (hK w' r1 r2)
theorem wpList_insert_map {P : Program} {q qe : IntKind} {t k e : TypeId} (T : MapT P q qe t k e) (w : World) {ops : Array Oper} {rest : List Oper} {o : Oper} {a : Act} {Q : Exit → Act → World → Prop} (hgd : o.guard = none) (m x v : Operand) (hop : o.op = .insert t m x v)
    {b n : Nat} {f : Int → Option Int} {X Y : Int} (hm : a.eval m = .map (some b)) (hx : a.eval x = .int q X) (hv : a.eval v = .int qe Y) (h : MapF P q qe k e w b n f) (hn : n < maxLen) (wX : (Lit.int q X).wf = true) (wY : (Lit.int qe Y).wf = true)
    (hK : ∀ w', MapF P q qe k e w' b (n + 1) (put f X Y) → w.grownBy w' (some b) → wpList P ops Q rest (a.put o.dst undef) w') : wpList P ops Q (o :: rest) a w := by
  refine wpList_plain hgd fun K' hK' => ?_
  obtain ⟨w', hrun, r1, r2⟩ := h.store T hn wX wY
  unfold Oper.wp
  simp [execOp, hop, hm, hx, hv, hrun, Result.andThen]
  exact hK' _ _ (hK w' r1 r2)
theorem grown_below {w w' : World} {b B : Nat} (h : w.grownBy w' (some b)) (hB : B ≤ b) (hs : B ≤ w.heap.size) : Below B w w' :=
  ⟨h.os, h.tape, h.output, h.size, fun i hi => h.block i (by omega) (by intro e; injection e; omega)⟩
theorem Box.grown {w w' : World} {g b : Nat} {t : TypeId} {cs : Array Value} (h : Box w g t cs) (hg : w.grownBy w' (some b)) (hne : g ≠ b) : Box w' g t cs := (hg.block g h.lt (by intro e; injection e; omega)).trans h
theorem Box.setOther {w : World} {g b : Nat} {t : TypeId} {cs : Array Value} (h : Box w b t cs) (hg : b ≠ g) (j : Nat) (d : Value) : Box (w.setCell ⟨g, j, none⟩ d) b t cs := by
  show (w.heap.modify g _)[b]? = _
  rw [Array.getElem?_modify, if_neg (by omega)]; exact h
def refWords (zs : List Int) (s : Nat) : List Int := (zs.drop (s + 1)).take (vR (nth zs s)).toNat
def bodyWords (zs : List Int) (s : Nat) : List Int := (zs.drop (s + 1 + (vR (nth zs s)).toNat)).take (vB (nth zs s)).toNat
/-- Where object 'k' begins. -/
def st (zs : List Int) (k : Nat) : Nat := nthG (begins zs 0) k
def mapTo (zs : List Int) : Nat → Int → Option Int
  | 0 => put (fun _ => none) 0 (-1)
  | k + 1 => if vF (nth zs (st zs k)) then mapTo zs k else put (mapTo zs k) ((st zs k : Int) + 1) k
def ixOf (zs : List Int) : Int → Option Int := mapTo zs (begins zs 0).length
def refsIn (zs : List Int) (s : Nat) : Bool := (refWords zs s).all fun v => (ixOf zs v).isSome
def refsOk (zs : List Int) : Bool := (begins zs 0).all (refsIn zs)
def arErr (zs : List Int) : Int := if spErr zs = 0 then (if refsOk zs then 0 else 5) else spErr zs
section
variable {zs : List Int}
theorem mapTo_free {k : Nat} (h : vF (nth zs (st zs k)) = true) : mapTo zs (k + 1) = mapTo zs k := by rw [mapTo, h]; rfl
theorem mapTo_live {k : Nat} (h : vF (nth zs (st zs k)) = false) : mapTo zs (k + 1) = put (mapTo zs k) ((st zs k : Int) + 1) k := by rw [mapTo, h]; rfl
theorem st_mem {k : Nat} (h : k < (begins zs 0).length) : st zs k ∈ begins zs 0 := by unfold st; rw [nthG_get _ _ h]; exact List.getElem_mem _
theorem arErr_sp (h : spErr zs ≠ 0) : arErr zs = spErr zs := by simp [arErr, h]
theorem arErr_none (h : spErr zs = 0) (hr : refsOk zs = false) : arErr zs = 5 := by simp [arErr, h, hr]
theorem arErr_ok (h : spErr zs = 0) (hr : refsOk zs = true) : arErr zs = 0 := by simp [arErr, h, hr]
theorem arErr_zero (h : arErr zs = 0) : spErr zs = 0 ∧ refsOk zs = true := by
  unfold arErr at h
  split at h
  · rename_i h1
    split at h
    · rename_i h2; exact ⟨h1, h2⟩
    · cases h
  · rename_i h1; exact absurd h h1
theorem refWords_len {s : Nat} (h : stepOk zs s = true) : (refWords zs s).length = (vR (nth zs s)).toNat := by
  have := (stepOk_iff.1 h).2
  unfold sLong at this
  unfold refWords
  simp; omega
theorem bodyWords_len {s : Nat} (h : stepOk zs s = true) : (bodyWords zs s).length = (vB (nth zs s)).toNat := by
  have := (stepOk_iff.1 h).2
  unfold sLong at this
  unfold bodyWords
  simp; omega
/-- What is known of a word at which an object begins. -/
theorem spot_facts {s : Nat} (h : stepOk zs s = true) (hz : ∀ z ∈ zs, (Lit.int .u64 z).wf = true) (hs : s < zs.length) :
    ∃ R Bd : Nat, vR (nth zs s) = R ∧ vB (nth zs s) = Bd ∧ s + 1 + R + Bd ≤ zs.length ∧ R + Bd ≤ 255 ∧ 0 ≤ vT (nth zs s) ∧ vT (nth zs s) ≤ 65535 ∧ (vF (nth zs s) = true → R = 0 ∧ vT (nth zs s) = 0) ∧
      hFault R Bd (vT (nth zs s)) (vF (nth zs s)) = 0 ∧ sLong (nth zs s) = 1 + R + Bd ∧ hWord R Bd (vT (nth zs s)) (vF (nth zs s)) = nth zs s := by
  obtain ⟨h1, h2⟩ := stepOk_iff.1 h
  have hw := hz (nth zs s) (by rw [nth_get _ _ hs]; exact List.getElem_mem _)
  rw [wf_u64] at hw
  obtain ⟨f1, f2, f3, f4, f5, f6, f7⟩ := head_fields hw.1 h1
  obtain ⟨R, hR⟩ := Int.eq_ofNat_of_zero_le f1
  obtain ⟨Bd, hB⟩ := Int.eq_ofNat_of_zero_le f2
  have hw2 := (header_of_word hw.1 h1).2
  rw [hR, hB] at hw2
  rw [hR, hB] at f7
  have hL : sLong (nth zs s) = 1 + R + Bd := by unfold sLong; rw [hR, hB]; simp
  refine ⟨R, Bd, hR, hB, by omega, by omega, f3, f4, fun h => ⟨by have := (f6 h).1; omega, (f6 h).2⟩, f7, hL, hw2⟩
end
/-- A description's cells: a tag, two slices, a flag. -/
structure Raw where
  t : Int
  ra : Option Addr
  rn : Nat
  rc : Nat
  ba : Option Addr
  bn : Nat
  bc : Nat
  f : Bool
instance : Inhabited Raw := ⟨⟨0, none, 0, 0, none, 0, 0, false⟩⟩
def rawC (r : Raw) : List Value := [.int .i64 r.t, .slice r.ra r.rn r.rc, .slice r.ba r.bn r.bc, .bool r.f]
def rawV (r : Raw) : Value := .agg #[.int .i64 r.t, .slice r.ra r.rn r.rc, .slice r.ba r.bn r.bc, .bool r.f]
theorem rawC_len (r : Raw) : (rawC r).length = 4 := rfl
theorem rawC_one (r : Raw) : ∀ u ∈ rawC r, u.oneCell' = true := by
  intro u hu
  simp [rawC] at hu
  rcases hu with rfl | rfl | rfl | rfl <;> rfl
/-- What a description says: its tag, its references, its data words, whether it is free. -/
abbrev Ob := Int × List Int × List Int × Bool
def obOf (zs : List Int) (s : Nat) : Ob := (vT (nth zs s), (refWords zs s).map (fun v => (ixOf zs v).getD 0), bodyWords zs s, vF (nth zs s))
/-- The cells read as the description; the slices' rows lie from block 'lo' on, below block 'hi'. -/
structure ObV (w : World) (lo hi : Nat) (r : Raw) (o : Ob) : Prop where
  tag : r.t = o.1
  free : r.f = o.2.2.2
  rcap : r.rn ≤ r.rc
  bcap : r.bn ≤ r.bc
  refs : Arr .i64 w hi r.ra r.rn o.2.1
  rhigh : High lo r.ra r.rn
  body : Arr .u64 w hi r.ba r.bn o.2.2.1
  bhigh : High lo r.ba r.bn
section
variable {w w' : World} {lo hi : Nat} {r : Raw} {o : Ob}
theorem ObV.below {B : Nat} (h : ObV w lo hi r o) (hb : Below B w w') (hB : hi ≤ B) : ObV w' lo hi r o :=
  ⟨h.tag, h.free, h.rcap, h.bcap, h.refs.below hb hB, h.rhigh, h.body.below hb hB, h.bhigh⟩
theorem ObV.more (h : ObV w lo hi r o) {hi' : Nat} (hl : hi ≤ hi') : ObV w lo hi' r o := ⟨h.tag, h.free, h.rcap, h.bcap, h.refs.more hl, h.rhigh, h.body.more hl, h.bhigh⟩
theorem ObV.less (h : ObV w lo hi r o) {lo' : Nat} (hl : lo' ≤ lo) : ObV w lo' hi r o := ⟨h.tag, h.free, h.rcap, h.bcap, h.refs, h.rhigh.less hl, h.body, h.bhigh.less hl⟩
theorem ObV.drewN (h : ObV w lo hi r o) (q : Nat) : ObV (w.drewN q) lo hi r o := ⟨h.tag, h.free, h.rcap, h.bcap, h.refs, h.rhigh, h.body, h.bhigh⟩
theorem ObV.setOther (h : ObV w lo hi r o) {g : Nat} (hg : g < lo) (j : Nat) (d : Value) : ObV (w.setCell ⟨g, j, none⟩ d) lo hi r o :=
  ⟨h.tag, h.free, h.rcap, h.bcap, h.refs.setOther h.rhigh hg j d, h.rhigh, h.body.setOther h.bhigh hg j d, h.bhigh⟩
end
theorem Own.setOther {k : IntKind} {e : TypeId} {w : World} {base g : Nat} {v : Value} {xs : List Int} (h : Own k e w base v xs) (hg : g < base) (j : Nat) (d : Value) : Own k e (w.setCell ⟨g, j, none⟩ d) base v xs := by
  obtain ⟨⟨hl, h2⟩, h3⟩ := h
  refine ⟨⟨hl, h2.imp id ?_⟩, h3⟩
  rintro ⟨g', cap, cur, hv, hg', hh, r⟩
  refine ⟨g', cap, cur, hv, hg', ?_, r⟩
  show (w.heap.modify g _)[g']? = _
  rw [Array.getElem?_modify, if_neg (by omega)]
  exact hh
theorem Own.below {k : IntKind} {e : TypeId} {w w' : World} {base : Nat} {v : Value} {xs : List Int} (h : Own k e w base v xs) (hb : Below w.heap.size w w') : Own k e w' base v xs := by
  obtain ⟨⟨hl, h2⟩, h3⟩ := h
  refine ⟨⟨hl, h2.imp id ?_⟩, h3⟩
  rintro ⟨g, cap, cur, hv, hg, hh, r⟩
  refine ⟨g, cap, cur, hv, hg, ?_, r⟩
  rw [hb.block g ?_]; exact hh
  rcases Nat.lt_or_ge g w.heap.size with h | h
  · exact h
  · rw [Array.getElem?_eq_none h] at hh; cases hh
def zeroRaw : Raw := ⟨0, none, 0, 0, none, 0, 0, false⟩
theorem made_raws (n : Nat) : (madeCells #[.int .i64 0, .slice none 0 0, .slice none 0 0, .bool false] (n * 4)).toList = (List.replicate n zeroRaw).flatMap rawC := by
  apply List.ext_getElem?
  intro i
  by_cases hi : i < n * 4
  · have h1 := flat_at (enc := rawC) (size := 4) rawC_len (List.replicate n zeroRaw) (i / 4) (i % 4) (by simp; omega) (by omega)
    rw [show i / 4 * 4 + i % 4 = i by omega] at h1
    rw [h1]
    have h2 : nthG (List.replicate n zeroRaw) (i / 4) = zeroRaw := by rw [nthG_get _ _ (by simp; omega)]; simp
    rw [h2]
    have h3 : i % 4 < 4 := by omega
    simp only [madeCells, Array.toList_map, Array.toList_range, List.getElem?_map, List.getElem?_range hi, Option.map_some]
    have : i % 4 = 0 ∨ i % 4 = 1 ∨ i % 4 = 2 ∨ i % 4 = 3 := by omega
    rcases this with h | h | h | h <;> (simp [h, rawC, zeroRaw])
  · rw [List.getElem?_eq_none (by simp [madeCells]; omega), List.getElem?_eq_none (by rw [flat_length rawC_len]; simp; omega)]
section
variable {e : TypeId} {w : World} {base : Nat} {v : Value} {l : List Raw}
theorem OwnG.setOne {g n cap : Nat} (h : OwnG rawC 4 e w base (.slice (some ⟨g, 0, none⟩) n cap) l) (j i : Nat) (a : Raw) (u : Value) (hj : j < l.length) (hi : i < 4) (he : rawC a = (rawC (nthG l j)).set i u) :
    OwnG rawC 4 e (w.setCell ⟨g, j * 4 + i, none⟩ u) base (.slice (some ⟨g, 0, none⟩) n cap) (l.set j a) := by
  obtain ⟨g', cap', hv, _, _, _, _, hs⟩ := h.form rawC_len (by omega)
  injection hv with e1 e2 e3
  injection e1 with e1
  injection e1 with e1
  subst e1
  exact hs j i a u hj hi he
theorem OwnG.put4 {g n cap : Nat} (h : OwnG rawC 4 e w base (.slice (some ⟨g, 0, none⟩) n cap) l) (j : Nat) (r : Raw) (hj : j < l.length) :
    OwnG rawC 4 e ((((w.setCell ⟨g, j * 4, none⟩ (.int .i64 r.t)).setCell ⟨g, j * 4 + 1, none⟩ (.slice r.ra r.rn r.rc)).setCell ⟨g, j * 4 + 2, none⟩ (.slice r.ba r.bn r.bc)).setCell ⟨g, j * 4 + 3, none⟩ (.bool r.f)) base (.slice (some ⟨g, 0, none⟩) n cap) (l.set j r) := by
  have hn : ∀ (l : List Raw) (a : Raw), j < l.length → nthG (l.set j a) j = a := fun l a hj => by rw [nthG_get _ _ (by simpa using hj)]; simp
  obtain ⟨q, hq⟩ : ∃ q, nthG l j = q := ⟨_, rfl⟩
  have s0 := h.setOne j 0 { q with t := r.t } (.int .i64 r.t) hj (by omega) (by rw [hq]; rfl)
  have s1 := s0.setOne j 1 { q with t := r.t, ra := r.ra, rn := r.rn, rc := r.rc } (.slice r.ra r.rn r.rc) (by simpa using hj) (by omega) (by rw [hn _ _ hj]; rfl)
  rw [List.set_set] at s1
  have s2 := s1.setOne j 2 { q with t := r.t, ra := r.ra, rn := r.rn, rc := r.rc, ba := r.ba, bn := r.bn, bc := r.bc } (.slice r.ba r.bn r.bc) (by simpa using hj) (by omega) (by rw [hn _ _ hj]; rfl)
  rw [List.set_set] at s2
  have s3 := s2.setOne j 3 r (.bool r.f) (by simpa using hj) (by omega) (by rw [hn _ _ hj]; rfl)
  rw [List.set_set] at s3
  exact s3
/-- The cells of description 'j' of a slice that was made. -/
theorem OwnG.cells4 {g n cap : Nat} (h : OwnG rawC 4 e w base (.slice (some ⟨g, 0, none⟩) n cap) l) {j : Nat} (hj : j < l.length) :
    (w.cell? ⟨g, j * 4, none⟩ = some (.int .i64 (nthG l j).t) ∧ w.cell? ⟨g, j * 4 + 1, none⟩ = some (.slice (nthG l j).ra (nthG l j).rn (nthG l j).rc) ∧ w.cell? ⟨g, j * 4 + 2, none⟩ = some (.slice (nthG l j).ba (nthG l j).bn (nthG l j).bc) ∧ w.cell? ⟨g, j * 4 + 3, none⟩ = some (.bool (nthG l j).f)) ∧
      ∀ i, i < 4 → w.frozen? ⟨g, j * 4 + i, none⟩ = false := by
  obtain ⟨g', cap', hv, _, _, _, hc, _⟩ := h.form rawC_len (by omega)
  injection hv with e1 e2 e3
  injection e1 with e1
  injection e1 with e1
  subst e1
  exact ⟨⟨(hc j hj 0 (by omega)).1, (hc j hj 1 (by omega)).1, (hc j hj 2 (by omega)).1, (hc j hj 3 (by omega)).1⟩, fun i hi => (hc j hj i hi).2⟩
/-- 'make([]api.Object, n)'. -/
theorem run_make_raws {P : Program} {t : TypeId} {bytes : Nat} (ht : P.underlying t = some (.slice e)) (hinfo : (P.info? e).map (fun i => (i.zero, i.size, i.bytes)) = some (some (.agg #[.int .i64 0, .slice none 0 0, .slice none 0 0, .bool false]), 4, bytes)) (hb : bytes ≤ 1000) (n : Nat) (hn : n ≤ 1000) (w : World) :
    ∃ w', Sem.run P (Instr.makeSlice t (.int .i64 (n : Int)) (.int .i64 (n : Int))) w = .ok (.slice (some ⟨w.heap.size, 0, none⟩) n n) w' ∧ OwnG rawC 4 e w' w.heap.size (.slice (some ⟨w.heap.size, 0, none⟩) n n) (List.replicate n zeroRaw) ∧ Below w.heap.size w w' ∧ w.heap.size < w'.heap.size := by
  obtain ⟨i, hi, hz, hs, hby⟩ := info_parts hinfo
  obtain ⟨w', hr, ho, hg⟩ := run_make_full (P := P) w w.heap.size t e i _ 4 ht hi hz hs .i64 .i64 n (by
    rw [hby]
    calc bytes * n ≤ 1000 * 1000 := Nat.mul_le_mul hb hn
      _ ≤ 281474976710656 := by omega) (by unfold maxLen; omega) (Nat.le_refl _)
  have ho' : OwnG rawC 4 e w' w.heap.size (.slice (some ⟨w.heap.size, 0, none⟩) n n) (List.replicate n zeroRaw) := by
    unfold OwnG
    rw [← made_raws, List.length_replicate]
    exact ho
  refine ⟨w', hr, ho', ⟨hg.os, hg.tape, hg.output, hg.size, fun k hk => hg.block k hk (by simp)⟩, ?_⟩
  rcases ho'.2 with ⟨h1, _⟩ | ⟨g, cap, cur, h1, _, hh, _⟩
  · cases h1
  · injection h1 with h1
    injection h1 with h1
    injection h1 with h1
    subst h1
    exact (Array.getElem?_eq_some_iff.1 hh).1
end
theorem ArrG.raw {w : World} {B n : Nat} {A : Option Addr} {l : List Raw} (h : ArrG rawC 4 w B A n l) {j : Nat} (hj : j < n) :
    ∃ b off, A = some ⟨b, off, none⟩ ∧ b < B ∧ w.cell? ⟨b, off + j * 4, none⟩ = some (.int .i64 (nthG l j).t) ∧ w.cell? ⟨b, off + j * 4 + 1, none⟩ = some (.slice (nthG l j).ra (nthG l j).rn (nthG l j).rc) ∧ w.cell? ⟨b, off + j * 4 + 2, none⟩ = some (.slice (nthG l j).ba (nthG l j).bn (nthG l j).bc) ∧
      w.cell? ⟨b, off + j * 4 + 3, none⟩ = some (.bool (nthG l j).f) := by
  obtain ⟨b, off, e, hb, hc⟩ := h.at_ hj
  exact ⟨b, off, e, hb, hc 0 (by omega), hc 1 (by omega), hc 2 (by omega), hc 3 (by omega)⟩
theorem below_set4 {B : Nat} {a w : World} (h : Below B a w) {g : Nat} (hg : B ≤ g) (o0 o1 o2 o3 : Nat) (d0 d1 d2 d3 : Value) :
    Below B a ((((w.setCell ⟨g, o0, none⟩ d0).setCell ⟨g, o1, none⟩ d1).setCell ⟨g, o2, none⟩ d2).setCell ⟨g, o3, none⟩ d3) := below_set (below_set (below_set (below_set h hg _ _) hg _ _) hg _ _) hg _ _
theorem ObV.setOther4 {w : World} {lo hi : Nat} {r : Raw} {o : Ob} (h : ObV w lo hi r o) {g : Nat} (hg : g < lo) (o0 o1 o2 o3 : Nat) (d0 d1 d2 d3 : Value) :
    ObV ((((w.setCell ⟨g, o0, none⟩ d0).setCell ⟨g, o1, none⟩ d1).setCell ⟨g, o2, none⟩ d2).setCell ⟨g, o3, none⟩ d3) lo hi r o := (((h.setOther hg _ _).setOther hg _ _).setOther hg _ _).setOther hg _ _
/-- What a reference word names, by the reference. -/
def nm (v : Int) : Int := if 256 < v then 9998 else v - 1
def named (zs : List Int) (s : Nat) : List Int := (refWords zs s).map nm
def isLive (zs : List Int) (s : Nat) : Bool := !vF (nth zs s)
/-- Where objects begin, as numbers. -/
def startsI (zs : List Int) : List Int := (begins zs 0).map (fun s : Nat => (s : Int))
/-- Where objects that are not free begin, as numbers. -/
def livesI (zs : List Int) : List Int := ((begins zs 0).filter (isLive zs)).map (fun s : Nat => (s : Int))
section
variable {zs : List Int}
theorem st_lt {i j : Nat} (hij : i < j) (hj : j < (begins zs 0).length) : st zs i < st zs j := by
  unfold st
  rw [nthG_get _ _ (by omega), nthG_get _ _ hj]
  exact List.pairwise_iff_getElem.1 begins_sorted i j (by omega) hj hij
theorem st_inj {i j : Nat} (hi : i < (begins zs 0).length) (hj : j < (begins zs 0).length) (h : st zs i = st zs j) : i = j := by
  rcases Nat.lt_trichotomy i j with h1 | h1 | h1
  · have := st_lt h1 hj; omega
  · exact h1
  · have := st_lt h1 hi; omega
theorem mapTo_null : ∀ k, mapTo zs k 0 = some (-1)
  | 0 => rfl
  | k + 1 => by
    cases h : vF (nth zs (st zs k))
    · rw [mapTo_live h, put_other _ (by omega)]; exact mapTo_null k
    · rw [mapTo_free h]; exact mapTo_null k
theorem mapTo_some : ∀ (k : Nat) {v i : Int}, v ≠ 0 → mapTo zs k v = some i → ∃ j : Nat, j < k ∧ i = j ∧ (st zs j : Int) + 1 = v ∧ vF (nth zs (st zs j)) = false
  | 0, v, i, hv, h => by
    unfold mapTo at h
    rw [put_other _ hv] at h; cases h
  | k + 1, v, i, hv, h => by
    cases hf : vF (nth zs (st zs k))
    · rw [mapTo_live hf] at h
      by_cases he : v = (st zs k : Int) + 1
      · rw [he, put_same] at h
        injection h with h
        exact ⟨k, by omega, h.symm, he.symm, hf⟩
      · rw [put_other _ he] at h
        obtain ⟨j, h1, h2⟩ := mapTo_some k hv h
        exact ⟨j, by omega, h2⟩
    · rw [mapTo_free hf] at h
      obtain ⟨j, h1, h2⟩ := mapTo_some k hv h
      exact ⟨j, by omega, h2⟩
theorem mapTo_hit : ∀ (k : Nat) {j : Nat}, k ≤ (begins zs 0).length → j < k → vF (nth zs (st zs j)) = false → mapTo zs k ((st zs j : Int) + 1) = some (j : Int)
  | 0, j, _, hj, _ => absurd hj (by omega)
  | k + 1, j, hk, hj, hf => by
    by_cases he : j = k
    · subst he
      rw [mapTo_live hf, put_same]
    · have ih := mapTo_hit k (j := j) (by omega) (by omega) hf
      cases hg : vF (nth zs (st zs k))
      · rw [mapTo_live hg, put_other _ (by
          intro e
          have : st zs j = st zs k := by omega
          have := st_inj (zs := zs) (by omega) (by omega) this
          omega)]
        exact ih
      · rw [mapTo_free hg]; exact ih
theorem ixOf_null : ixOf zs 0 = some (-1) := mapTo_null _
theorem ixOf_some {v i : Int} (hv : v ≠ 0) (h : ixOf zs v = some i) : ∃ j : Nat, j < (begins zs 0).length ∧ i = j ∧ (st zs j : Int) + 1 = v ∧ vF (nth zs (st zs j)) = false := mapTo_some _ hv h
theorem ixOf_hit {j : Nat} (hj : j < (begins zs 0).length) (hf : vF (nth zs (st zs j)) = false) : ixOf zs ((st zs j : Int) + 1) = some (j : Int) := mapTo_hit _ (Nat.le_refl _) hj hf
theorem mem_begins {s : Nat} (h : s ∈ begins zs 0) : ∃ j, j < (begins zs 0).length ∧ st zs j = s := by
  obtain ⟨j, hj, rfl⟩ := List.getElem_of_mem h
  exact ⟨j, hj, by unfold st; rw [nthG_get _ _ hj]⟩
theorem mem_lives {x : Int} : x ∈ livesI zs ↔ ∃ j, j < (begins zs 0).length ∧ (st zs j : Int) = x ∧ vF (nth zs (st zs j)) = false := by
  unfold livesI
  rw [List.mem_map]
  constructor
  · rintro ⟨s, hs, rfl⟩
    obtain ⟨h1, h2⟩ := List.mem_filter.1 hs
    obtain ⟨j, hj, rfl⟩ := mem_begins h1
    exact ⟨j, hj, rfl, by simpa [isLive] using h2⟩
  · rintro ⟨j, hj, rfl, hf⟩
    exact ⟨st zs j, List.mem_filter.2 ⟨st_mem hj, by simp [isLive, hf]⟩, rfl⟩
theorem nth_starts {j : Nat} (hj : j < (begins zs 0).length) : nth (startsI zs) j = (st zs j : Int) := by
  unfold startsI st
  rw [nth_get _ _ (by simpa using hj), nthG_get _ _ hj]
  simp
/-- A word refers to an object just if the reference finds what it names. -/
theorem ix_iff {v : Int} (hv : 0 ≤ v) (hl : zs.length ≤ 256) : (ixOf zs v).isSome = true ↔ nm v = -1 ∨ nm v ∈ livesI zs := by
  by_cases h0 : v = 0
  · subst h0
    rw [ixOf_null]
    simp [nm]
  · constructor
    · intro h
      obtain ⟨i, hi⟩ := Option.isSome_iff_exists.1 h
      obtain ⟨j, hj, _, he, hf⟩ := ixOf_some h0 hi
      have hlt := (begins_mem (st_mem hj)).2.1
      refine .inr (mem_lives.2 ⟨j, hj, ?_, hf⟩)
      unfold nm
      rw [if_neg (by omega)]
      omega
    · rintro (h | h)
      · unfold nm at h
        split at h <;> omega
      · obtain ⟨j, hj, he, hf⟩ := mem_lives.1 h
        have hlt := (begins_mem (st_mem hj)).2.1
        have hv : v = (st zs j : Int) + 1 := by
          unfold nm at he
          split at he <;> omega
        rw [hv, ixOf_hit hj hf]; rfl
/-- Every reference of a free object: there is none. -/
theorem free_refs {s : Nat} (hz : ∀ z ∈ zs, (Lit.int .u64 z).wf = true) (hs : s ∈ begins zs 0) (hf : vF (nth zs s) = true) : refWords zs s = [] := by
  obtain ⟨_, h1, h2⟩ := begins_mem hs
  obtain ⟨R, Bd, hR, _, _, _, _, _, f5, _⟩ := spot_facts h2 hz h1
  have := (f5 hf).1
  subst this
  unfold refWords
  rw [hR]; simp
theorem refs_wf {s : Nat} (hz : ∀ z ∈ zs, (Lit.int .u64 z).wf = true) : ∀ v ∈ refWords zs s, 0 ≤ v := fun v hv => (wf_u64.1 (hz v (List.mem_of_mem_drop (List.mem_of_mem_take hv)))).1
/-- Whether all references are good, as the reference asks it. -/
theorem refsOk_iff (hz : ∀ z ∈ zs, (Lit.int .u64 z).wf = true) (hl : zs.length ≤ 256) : refsOk zs = true ↔ ∀ s ∈ begins zs 0, vF (nth zs s) = false → ∀ x ∈ named zs s, x = -1 ∨ x ∈ livesI zs := by
  unfold refsOk refsIn named
  simp only [List.all_eq_true, List.mem_map]
  constructor
  · rintro h s hs _ x ⟨v, hv, rfl⟩
    exact (ix_iff (refs_wf hz v hv) hl).1 (h s hs v hv)
  · intro h s hs v hv
    cases hf : vF (nth zs s)
    · exact (ix_iff (refs_wf hz v hv) hl).2 (h s hs hf _ ⟨v, hv, rfl⟩)
    · rw [free_refs hz hs hf] at hv; cases hv
end
theorem step_append_run {P : Program} {w : World} {ops : Array Oper} {o : Oper} {a : Act} {K : Act → World → Prop} {Q : Exit → Act → World → Prop} {E : Prop} (hgd : o.guard = none) (s x : Operand) (t : TypeId)
    (ho : o.op = .call { callee := .builtin .append, args := #[s, x], argTypes := #[t, t] }) {v src v' : Value} {w' : World} (hs : a.eval s = v) (hx : a.eval x = src)
    (hrun : Sem.run P (Builtin.append_ #[t, t] o.type #[v, src]) w = .ok v' w') (h : K (a.put o.dst v') w') :
    if Region.wanted o (yielded ops a.tmps) = true then Oper.wp P o a w K Q else E := by
  have hw : Region.wanted o (yielded ops a.tmps) = true := by simp [Region.wanted, hgd]
  rw [if_pos hw]
  unfold Oper.wp execOp
  simp only [ho, resolve, invoke, builtin, Sem.run_bind, Sem.run_pure, Result.andThen_ok, List.map_toArray, List.map_cons, List.map_nil, hs, hx, hrun]
  exact h
/-- The slice's row, if it has one, is another block than 'g'. -/
def Off (g : Option Nat) (A : Option Addr) (n : Nat) : Prop := ∀ b off, 0 < n → A = some ⟨b, off, none⟩ → g ≠ some b
theorem Off.of_high {lo n : Nat} {g : Option Nat} {A : Option Addr} (h : High lo A n) (hg : ∀ b, g = some b → b < lo) : Off g A n := fun b off hn hA e => by
  have := h b off hn hA
  have := hg b e
  omega
theorem Arr.keepOff {k : IntKind} {w w' : World} {B n : Nat} {A : Option Addr} {zs : List Int} {g : Option Nat} (h : Arr k w B A n zs) (ho : Off g A n) (hk : ∀ i, i < B → g ≠ some i → w'.heap[i]? = w.heap[i]?) : Arr k w' B A n zs :=
  ⟨h.1, h.2.1, fun hn => by
    obtain ⟨b, off, e, hb, hc⟩ := h.2.2 hn
    refine ⟨b, off, e, hb, fun j hj => ?_⟩
    have := hk b hb (ho b off hn e)
    rw [← hc j hj]
    simp [World.cell?, this]⟩
theorem ObV.keepOff {w w' : World} {lo hi : Nat} {r : Raw} {o : Ob} {g : Option Nat} (h : ObV w lo hi r o) (h1 : Off g r.ra r.rn) (h2 : Off g r.ba r.bn) (hk : ∀ i, i < hi → g ≠ some i → w'.heap[i]? = w.heap[i]?) : ObV w' lo hi r o :=
  ⟨h.tag, h.free, h.rcap, h.bcap, h.refs.keepOff h1 hk, h.rhigh, h.body.keepOff h2 hk, h.bhigh⟩
/-- A row that lies below 'hi' is no block from there on. -/
theorem Arr.off {k : IntKind} {w : World} {B n : Nat} {A : Option Addr} {zs : List Int} (h : Arr k w B A n zs) {g : Option Nat} (hg : ∀ b, g = some b → B ≤ b) : Off g A n := fun b off hn hA e => by
  obtain ⟨b', off', hA', hb, _⟩ := h.2.2 hn
  rw [hA] at hA'
  injection hA' with hA'
  injection hA' with e1
  have := hg b e
  omega
theorem ArrG.cut {α : Type} [Inhabited α] {enc : α → List Value} {size : Nat} {w : World} {B n : Nat} {A D : Option Addr} {l : List α} (h : ArrG enc size w B A n l) {p q : Nat} (hpq : p + q ≤ n) (hD : ∀ b off, A = some ⟨b, off, none⟩ → 0 < q → D = some ⟨b, off + p * size, none⟩) : ArrG enc size w B D q ((l.drop p).take q) := by
  obtain ⟨hl, hc⟩ := h
  refine ⟨by simp; omega, fun hq => ?_⟩
  obtain ⟨b, off, rfl, hb, hcell⟩ := hc (by omega)
  refine ⟨b, off + p * size, hD b off rfl hq, hb, fun j hj i hi => ?_⟩
  have := hcell (p + j) (by omega) i hi
  rw [Nat.add_mul] at this
  rw [show off + p * size + j * size + i = off + (p * size + j * size) + i by omega, this]
  congr 2
  rw [nthG_get _ _ (by omega), nthG_get _ _ (by simp; omega)]
  simp
theorem one_raw (w : World) (t : TypeId) (r : Raw) : ArrG rawC 4 (w.alloc (.cells #[.int .i64 r.t, .slice r.ra r.rn r.rc, .slice r.ba r.bn r.bc, .bool r.f] t)) (w.heap.size + 1) (some ⟨w.heap.size, 0, none⟩) 1 [r] := by
  refine ⟨rfl, fun _ => ⟨w.heap.size, 0, rfl, by omega, fun j hj i hi => ?_⟩⟩
  have : j = 0 := by omega
  subst this
  have hb := Box.new w t #[.int .i64 r.t, .slice r.ra r.rn r.rc, .slice r.ba r.bn r.bc, .bool r.f]
  rw [Nat.zero_mul, Nat.zero_add, hb.cell i]
  have h1 : nthG [r] 0 = r := rfl
  rw [h1]
  have : i = 0 ∨ i = 1 ∨ i = 2 ∨ i = 3 := by omega
  rcases this with rfl | rfl | rfl | rfl <;> rfl
structure Grew (w : World) (v : Value) (w' : World) (v' : Value) : Prop where
  os : w'.os = w.os
  tape : w'.tape = w.tape
  output : w'.output = w.output
  size : w.heap.size ≤ w'.heap.size
  block : ∀ i, i < w.heap.size → v.ownBlock ≠ some i → w'.heap[i]? = w.heap[i]?
  loc : v'.ownBlock = v.ownBlock ∨ ∀ b, v'.ownBlock = some b → w.heap.size ≤ b
section
variable {w w' w'' : World} {v v' v'' : Value}
theorem Grew.refl (w : World) (v : Value) : Grew w v w v := ⟨rfl, rfl, rfl, Nat.le_refl _, fun _ _ _ => rfl, .inl rfl⟩
theorem Grew.of_below (h : Below w.heap.size w w') (v : Value) : Grew w v w' v := ⟨h.os, h.tape, h.output, h.size, fun i hi _ => h.block i hi, .inl rfl⟩
theorem Grew.keepNe (h : Grew w v w' v') {i : Nat} (hi : i < w.heap.size) (hne : v.ownBlock ≠ some i) : v'.ownBlock ≠ some i := by
  rcases h.loc with h1 | h1
  · rw [h1]; exact hne
  · intro e
    have := h1 i e
    omega
theorem Grew.trans (h : Grew w v w' v') (h' : Grew w' v' w'' v'') : Grew w v w'' v'' :=
  ⟨h'.os.trans h.os, h'.tape.trans h.tape, h'.output.trans h.output, Nat.le_trans h.size h'.size, fun i hi hne => (h'.block i (Nat.lt_of_lt_of_le hi h.size) (h.keepNe hi hne)).trans (h.block i hi hne), by
    rcases h'.loc with h1 | h1
    · rcases h.loc with h2 | h2
      · exact .inl (h1.trans h2)
      · exact .inr fun b hb => h2 b (h1 ▸ hb)
    · exact .inr fun b hb => Nat.le_trans h.size (h1 b hb)⟩
theorem Grew.below (h : Grew w v w' v') {B : Nat} (hB : B ≤ w.heap.size) (hv : ∀ b, v.ownBlock = some b → B ≤ b) : Below B w w' :=
  ⟨h.os, h.tape, h.output, h.size, fun i hi => h.block i (by omega) (fun e => by have := hv i e; omega)⟩
theorem Off.grew {A : Option Addr} {n B : Nat} (h : Grew w v w' v') (ho : Off v.ownBlock A n) (hB : ∀ b off, 0 < n → A = some ⟨b, off, none⟩ → b < B) (hw : B ≤ w.heap.size) : Off v'.ownBlock A n := fun b off hn hA e =>
  h.keepNe (Nat.lt_of_lt_of_le (hB b off hn hA) hw) (ho b off hn hA) e
theorem Arr.lt {k : IntKind} {B n : Nat} {A : Option Addr} {zs : List Int} (h : Arr k w B A n zs) : ∀ b off, 0 < n → A = some ⟨b, off, none⟩ → b < B := fun b off hn hA => by
  obtain ⟨b', off', e, hb, _⟩ := h.2.2 hn
  rw [hA] at e
  injection e with e
  injection e with e1
  omega
theorem Arr.grew {k : IntKind} {B n : Nat} {A : Option Addr} {zs : List Int} (h : Arr k w B A n zs) (hg : Grew w v w' v') (ho : Off v.ownBlock A n) (hB : B ≤ w.heap.size) : Arr k w' B A n zs ∧ Off v'.ownBlock A n :=
  ⟨h.keepOff ho fun i hi hne => hg.block i (by omega) hne, ho.grew hg h.lt hB⟩
theorem ArrG.lt {α : Type} [Inhabited α] {enc : α → List Value} {sz B n : Nat} {A : Option Addr} {l : List α} (h : ArrG enc sz w B A n l) : ∀ b off, 0 < n → A = some ⟨b, off, none⟩ → b < B := fun b off hn hA => by
  obtain ⟨b', off', e, hb, _⟩ := h.2 hn
  rw [hA] at e
  injection e with e
  injection e with e1
  omega
theorem ArrG.grew {α : Type} [Inhabited α] {enc : α → List Value} {sz B n : Nat} {A : Option Addr} {l : List α} (h : ArrG enc sz w B A n l) (hg : Grew w v w' v') (ho : Off v.ownBlock A n) (hB : B ≤ w.heap.size) : ArrG enc sz w' B A n l ∧ Off v'.ownBlock A n := by
  refine ⟨⟨h.1, fun hn => ?_⟩, ho.grew hg h.lt hB⟩
  obtain ⟨b, off, e, hb, hc⟩ := h.2 hn
  refine ⟨b, off, e, hb, fun j hj i hi => ?_⟩
  have := hg.block b (by omega) (ho b off hn e)
  rw [← hc j hj i hi]
  simp [World.cell?, this]
theorem ObV.grew {lo hi : Nat} {r : Raw} {o : Ob} (h : ObV w lo hi r o) (hg : Grew w v w' v') (h1 : Off v.ownBlock r.ra r.rn) (h2 : Off v.ownBlock r.ba r.bn) (hB : hi ≤ w.heap.size) : ObV w' lo hi r o ∧ Off v'.ownBlock r.ra r.rn ∧ Off v'.ownBlock r.ba r.bn :=
  have a := h.refs.grew hg h1 hB
  have b := h.body.grew hg h2 hB
  ⟨⟨h.tag, h.free, h.rcap, h.bcap, a.1, h.rhigh, b.1, h.bhigh⟩, a.2, b.2⟩
theorem MapF.grew {P : Program} {q qe : IntKind} {k e : TypeId} {b n : Nat} {f : Int → Option Int} (h : MapF P q qe k e w b n f) (hg : Grew w v w' v') (ho : v.ownBlock ≠ some b) : MapF P q qe k e w' b n f ∧ v'.ownBlock ≠ some b :=
  ⟨h.keep (hg.block b h.lt ho), hg.keepNe h.lt ho⟩
theorem Box.grew {g : Nat} {t : TypeId} {cs : Array Value} (h : Box w g t cs) (hg : Grew w v w' v') (ho : v.ownBlock ≠ some g) : Box w' g t cs ∧ v'.ownBlock ≠ some g :=
  ⟨(hg.block g h.lt ho).trans h, hg.keepNe h.lt ho⟩
end
section
variable {k : IntKind} {e : TypeId} {w w' : World} {base : Nat} {v : Value} {xs : List Int}
theorem Own.rowLt (h : Own k e w base v xs) : ∀ g, v.ownBlock = some g → g < w.heap.size := by
  intro b hb
  rcases h.1.2 with ⟨rfl, _⟩ | ⟨g, cap, cur, rfl, hgb, hh, _⟩
  · simp [Value.ownBlock] at hb
  · simp [Value.ownBlock] at hb
    subst hb
    rcases Nat.lt_or_ge g w.heap.size with h | h
    · exact h
    · rw [Array.getElem?_eq_none h] at hh; cases hh
theorem Own.row (h : Own k e w base v xs) : ∀ g, v.ownBlock = some g → base ≤ g := by
  intro b hb
  rcases h.1.2 with ⟨rfl, _⟩ | ⟨g, cap, cur, rfl, hgb, hh, _⟩
  · simp [Value.ownBlock] at hb
  · simp [Value.ownBlock] at hb
    omega
/-- 'append(v, x)'. -/
theorem Own.pushG {P : Program} {t ty : TypeId} (h : Own k e w base v xs) (ht : P.underlying t = some (.slice e)) {bytes : Nat} (hinfo : (P.info? e).map (fun i => (i.zero, i.size, i.bytes)) = some (some (.int k 0), 1, bytes))
    (hb8 : bytes ≤ 8) {x : Int} (hx : (Lit.int k x).wf = true) (hn : xs.length + 1 ≤ 1073741824) (hbase : base ≤ w.heap.size) :
    ∃ v' w', Sem.run P (Builtin.append_ #[t, t] ty #[v, .slice (some ⟨w.heap.size, 0, none⟩) 1 1]) (w.alloc (.cells #[.int k x] e)) = .ok v' w' ∧ Own k e w' base v' (xs ++ [x]) ∧ Grew w v w' v' := by
  obtain ⟨i, hi, hz, hs, hby⟩ := info_parts hinfo
  have hcell : ∀ j u, ([.int k x] : List Value)[j]? = some u → (w.alloc (.cells #[.int k x] e)).cell? ((⟨w.heap.size, 0, none⟩ : Addr).add j) = some u := by
    intro j u hj
    match j, hj with
    | 0, hj => simp at hj; subst hj; simp [Addr.add]
  obtain ⟨v', w', hrun, hown, hg, _, hloc⟩ := run_append_own_at (P := P) (w.alloc (.cells #[.int k x] e)) base t ty e i (.int k 0) 1 bytes ht hi hz hs hby rfl (by omega) v xs.length (xs.map (Value.int k)) (h.1.alloc _)
    ⟨w.heap.size, 0, none⟩ 1 1 [.int k x] rfl hcell (fun u hu => by rw [List.mem_singleton.1 hu]; rfl) (by unfold maxLen; omega) (by
      calc (xs.length + 1) * bytes ≤ (xs.length + 1) * 8 := Nat.mul_le_mul_left _ hb8
        _ ≤ 140737488355328 := by omega) (by simp; omega)
  have hsz := hg.size
  simp at hsz
  refine ⟨v', w', hrun, ⟨by simpa using hown, ?_⟩, ⟨hg.os, hg.tape, hg.output, by omega, fun j hj hne => ?_, hloc.imp id fun hh b hb => ?_⟩⟩
  · intro y hy
    rcases List.mem_append.1 hy with h1 | h1
    · exact h.2 y h1
    · rw [List.mem_singleton.1 h1]; exact hx
  · rw [hg.block j (by simp; omega) (fun e => hne e.symm)]
    exact Below.heap_alloc w _ j hj
  · rw [hh] at hb
    injection hb with hb
    simp at hb
    omega
end
/-- 'append(v, src...)' of descriptions. -/
theorem OwnG.cat4 {P : Program} {t ty e : TypeId} {w : World} {base : Nat} {v : Value} {l l' : List Raw} (h : OwnG rawC 4 e w base v l) (ht : P.underlying t = some (.slice e)) {z : Value} {bytes : Nat}
    (hinfo : (P.info? e).map (fun i => (i.zero, i.size, i.bytes)) = some (some z, 4, bytes)) (hz : z.cells.size = 4) (hb : bytes ≤ 1000) {A : Option Addr} {m c B : Nat} (ha : ArrG rawC 4 w B A m l') (hn : l.length + m ≤ 1073741824) (hbase : base ≤ w.heap.size) :
    ∃ v' w', Sem.run P (Builtin.append_ #[t, t] ty #[v, .slice A m c]) w = .ok v' w' ∧ OwnG rawC 4 e w' base v' (l ++ l') ∧ Grew w v w' v' := by
  obtain ⟨i, hi, hz', hs', hby⟩ := info_parts hinfo
  rcases A with _ | ad
  · have hm : m = 0 := ha.none_len
    subst hm
    have hy : l' = [] := List.eq_nil_of_length_eq_zero ha.1
    subst hy
    refine ⟨v, w, ?_, by simpa using h, Grew.refl _ _⟩
    rcases h.2 with ⟨rfl, h0⟩ | ⟨g, cap, cur, rfl, _, _, hnc, _⟩
    · simp [Builtin.append_, run_underlying ht, sizeOf, typeInfo, hi, Builtin.lenOf, Builtin.firstCells]
    · simp [Builtin.append_, run_underlying ht, sizeOf, typeInfo, hi, Builtin.lenOf, Builtin.firstCells, hnc, storeCells]
  · have hl' := ha.1
    have hcell : ∀ j u, (l'.flatMap rawC)[j]? = some u → w.cell? (ad.add j) = some u := by
      intro j u hj
      have hjl : j < l'.length * 4 := by
        have := (List.getElem?_eq_some_iff.1 hj).1
        rwa [flat_length rawC_len] at this
      obtain ⟨b, off, h1, _, hc⟩ := ha.2 (by omega)
      injection h1 with h1
      subst h1
      have e1 : (⟨b, off, none⟩ : Addr).add j = ⟨b, off + j, none⟩ := by unfold Addr.add; split <;> simp_all
      have h2 := hc (j / 4) (by omega) (j % 4) (by omega)
      have h3 := flat_at (enc := rawC) (size := 4) rawC_len l' (j / 4) (j % 4) (by omega) (by omega)
      rw [show j / 4 * 4 + j % 4 = j by omega] at h3
      rw [show off + j / 4 * 4 + j % 4 = off + j by omega] at h2
      rw [e1, h2, ← h3, hj]
    obtain ⟨v', w', hrun, hown, hg, _, hloc⟩ := run_append_own_at (P := P) w base t ty e i z 4 bytes ht hi hz' hs' hby hz (by omega) v l.length (l.flatMap rawC) h
      ad m c (l'.flatMap rawC) (by rw [flat_length rawC_len, hl']) hcell (fun u hu => by
        obtain ⟨a, _, ha⟩ := List.mem_flatMap.1 hu
        exact rawC_one a u ha) (by unfold maxLen; omega) (by
        calc (l.length + m) * bytes ≤ (l.length + m) * 1000 := Nat.mul_le_mul_left _ hb
          _ ≤ 140737488355328 := by
            have : (l.length + m) * 1000 ≤ 100 * 1000 ∨ True := .inr trivial
            omega) hbase
    refine ⟨v', w', hrun, ?_, ⟨hg.os, hg.tape, hg.output, hg.size, fun j hj hne => hg.block j hj (fun e => hne e.symm), hloc.imp id fun hh b hb => ?_⟩⟩
    · unfold OwnG
      rw [List.flatMap_append, List.length_append, hl']
      exact hown
    · rw [hh] at hb
      injection hb with hb
      omega
end Go.Proofs.Ytjefbekdjgmmbaa
namespace Go.Proofs.Ytjefbekdjgmmbaa
open Go.RowKit
def oFault (o : Ob) : Int := hFault o.2.1.length o.2.2.1.length o.1 o.2.2.2
def oLong (o : Ob) : Nat := 1 + o.2.1.length + o.2.2.1.length
/-- Where object 'k' begins. -/
def offs (os : List Ob) (k : Nat) : Nat := ((os.take k).map oLong).sum
/-- The error of the first header that has one. -/
def fault : List Ob → Int
  | [] => 0
  | o :: l => if oFault o = 0 then fault l else oFault o
/-- The map of the first 'k' objects' places. -/
def pMap (os : List Ob) (n : Nat) : Nat → Int → Option Int
  | 0 => put (fun _ => none) (-1) 0
  | k + 1 => if (nthG os k).2.2.2 = false ∧ offs os k + oLong (nthG os k) ≤ n then put (pMap os n k) k ((offs os k : Int) + 1) else pMap os n k
/-- The error of place. -/
def pErr (os : List Ob) (n : Nat) : Int := if fault os = 0 then (if n < offs os os.length then 7 else 0) else fault os
section
variable {os : List Ob} {n k : Nat}
theorem offs_zero : offs os 0 = 0 := rfl
theorem offs_step (hk : k < os.length) : offs os (k + 1) = offs os k + oLong (nthG os k) := by
  unfold offs
  rw [List.take_succ_eq_append_getElem hk, List.map_append, List.sum_append, nthG_get _ _ hk]
  simp
theorem oLong_le {o : Ob} (h : oFault o = 0) : oLong o ≤ 256 := by
  have := hFault_ok h
  unfold oLong
  omega
theorem offs_le : ∀ k, k ≤ os.length → (∀ j, j < k → oFault (nthG os j) = 0) → offs os k ≤ 256 * k
  | 0, _, _ => by rw [offs_zero]; omega
  | k + 1, hk, h => by
    have h1 := offs_le k (by omega) (fun j hj => h j (by omega))
    have h2 := oLong_le (h k (by omega))
    rw [offs_step (by omega)]
    omega
theorem offs_ge : ∀ k, k ≤ os.length → k ≤ offs os k
  | 0, _ => by omega
  | k + 1, hk => by
    have h1 := offs_ge k (by omega)
    rw [offs_step (by omega)]
    unfold oLong
    omega
theorem offs_mono : ∀ {i j : Nat}, i ≤ j → j ≤ os.length → offs os i ≤ offs os j := by
  intro i j hij hj
  induction hij with
  | refl => exact Nat.le_refl _
  | step _ ih =>
    rw [offs_step (by omega)]
    have := ih (by omega)
    omega
theorem fault_ok : ∀ {os : List Ob}, (∀ j, j < os.length → oFault (nthG os j) = 0) → fault os = 0
  | [], _ => rfl
  | o :: l, h => by
    have h0 := h 0 (by simp)
    rw [show nthG (o :: l) 0 = o from rfl] at h0
    rw [fault, if_pos h0]
    refine fault_ok fun j hj => ?_
    have := h (j + 1) (by simp; omega)
    exact this
theorem fault_at : ∀ {os : List Ob} {k : Nat}, k < os.length → (∀ j, j < k → oFault (nthG os j) = 0) → oFault (nthG os k) ≠ 0 → fault os = oFault (nthG os k)
  | [], k, hk, _, _ => absurd hk (by simp)
  | o :: l, 0, _, _, h => by
    rw [show nthG (o :: l) 0 = o from rfl] at h ⊢
    rw [fault, if_neg h]
  | o :: l, k + 1, hk, h, hb => by
    have h0 := h 0 (by omega)
    rw [show nthG (o :: l) 0 = o from rfl] at h0
    rw [fault, if_pos h0]
    exact fault_at (os := l) (k := k) (by simpa using hk) (fun j hj => h (j + 1) (by omega)) hb
theorem fault_zero (h : fault os = 0) : ∀ j, j < os.length → oFault (nthG os j) = 0 := by
  intro j
  induction j using Nat.strongRecOn with
  | ind j ih =>
    intro hj
    by_cases hb : oFault (nthG os j) = 0
    · exact hb
    · have := fault_at hj (fun i hi => ih i hi (by omega)) hb
      rw [this] at h
      exact h
theorem pErr_fault (h : fault os ≠ 0) : pErr os n = fault os := by simp [pErr, h]
theorem pErr_full (h : fault os = 0) (hn : n < offs os os.length) : pErr os n = 7 := by simp [pErr, h, hn]
theorem pErr_ok (h : fault os = 0) (hn : offs os os.length ≤ n) : pErr os n = 0 := by simp [pErr, h]; omega
theorem pErr_zero (h : pErr os n = 0) : fault os = 0 ∧ offs os os.length ≤ n := by
  unfold pErr at h
  split at h
  · rename_i h1
    split at h
    · cases h
    · exact ⟨h1, by omega⟩
  · rename_i h1; exact absurd h h1
theorem pMap_in (h1 : (nthG os k).2.2.2 = false) (h2 : offs os k + oLong (nthG os k) ≤ n) : pMap os n (k + 1) = put (pMap os n k) k ((offs os k : Int) + 1) := by rw [pMap, if_pos ⟨h1, h2⟩]
theorem pMap_free (h1 : (nthG os k).2.2.2 = true) : pMap os n (k + 1) = pMap os n k := by rw [pMap, if_neg (by rw [h1]; simp)]
theorem pMap_out (h2 : n < offs os k + oLong (nthG os k)) : pMap os n (k + 1) = pMap os n k := by rw [pMap, if_neg (by omega)]
end
end Go.Proofs.Ytjefbekdjgmmbaa
