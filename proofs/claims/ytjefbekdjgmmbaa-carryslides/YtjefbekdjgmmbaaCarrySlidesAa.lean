/-
  Parts of the proof of CarrySlides: Base, TintM, ArFrom.
-/
import Derived.WalkKit
import Derived.Below
import Derived.Lib.Hide
import Derived.Laws.OwnMore
import Derived.Laws.Rows
import Derived.Laws.CopyOwn
import Derived.Deep.Draws
import Derived.Deep.OwnRows
import Derived.Deep.QuietTactic
import Derived.BigQuiet
namespace Go.Proofs.Ytjefbekdjgmmbaa
open Go.RowKit
/-- Number 'j' of a list, 0 where there is none. A word of its own: the walk leaves it as it stands. -/
def nth (zs : List Int) (j : Nat) : Int := zs.getD j 0
theorem nth_get (zs : List Int) (j : Nat) (h : j < zs.length) : nth zs j = zs[j] := by simp [nth, h]
/-- The slice value ('A', 'n') reads in 'w' as the numbers 'zs', each fitting its kind, and lies below block 'B'. -/
def Arr (k : IntKind) (w : World) (B : Nat) (A : Option Addr) (n : Nat) (zs : List Int) : Prop :=
  zs.length = n ∧ (∀ z ∈ zs, (Lit.int k z).wf = true) ∧ (0 < n → ∃ b off, A = some ⟨b, off, none⟩ ∧ b < B ∧ ∀ j, j < n → w.cell? ⟨b, off + j, none⟩ = some (.int k (nth zs j)))
/-- Block 'g' is just the numbers 'zs', none frozen. -/
def Whole (k : IntKind) (t : TypeId) (w : World) (g : Nat) (zs : List Int) : Prop :=
  w.heap[g]? = some (.cells (zs.map (Value.int k)).toArray t (0, 0)) ∧ ∀ z ∈ zs, (Lit.int k z).wf = true
section
variable {k : IntKind} {t : TypeId} {w w' : World} {B B' g n : Nat} {A : Option Addr} {zs : List Int}
theorem Arr.keep (h : Arr k w B A n zs) (hk : ∀ p : Addr, p.block < B → w'.cell? p = w.cell? p) : Arr k w' B A n zs :=
  ⟨h.1, h.2.1, fun hn => by
    obtain ⟨b, off, e, hb, hc⟩ := h.2.2 hn
    exact ⟨b, off, e, hb, fun j hj => (hk _ hb).trans (hc j hj)⟩⟩
theorem Arr.below (h : Arr k w B A n zs) (hb : Below B' w w') (hB : B ≤ B') : Arr k w' B A n zs := h.keep fun _ hp => hb.cell (by omega)
theorem Arr.more (h : Arr k w B A n zs) (hB : B ≤ B') : Arr k w B' A n zs :=
  ⟨h.1, h.2.1, fun hn => by
    obtain ⟨b, off, e, hb, hc⟩ := h.2.2 hn
    exact ⟨b, off, e, by omega, hc⟩⟩
theorem Arr.drewN (h : Arr k w B A n zs) (q : Nat) : Arr k (w.drewN q) B A n zs := h
theorem Arr.zero : Arr k w B A 0 [] := ⟨rfl, (fun z hz => by cases hz), fun h => absurd h (by omega)⟩
theorem Whole.lt (h : Whole k t w g zs) : g < w.heap.size := by
  rcases Nat.lt_or_ge g w.heap.size with hlt | hge
  · exact hlt
  · have := h.1; rw [Array.getElem?_eq_none hge] at this; cases this
theorem Whole.cell (h : Whole k t w g zs) {j : Nat} (hj : j < zs.length) : w.cell? ⟨g, j, none⟩ = some (.int k (nth zs j)) := by
  rw [cell_of_row w g j _ t (0, 0) h.1]
  simp [nth, List.getElem?_map, List.getElem?_eq_getElem hj]
theorem Whole.frozen (h : Whole k t w g zs) (j : Nat) : w.frozen? ⟨g, j, none⟩ = false := by
  have := h.1
  simp [World.frozen?, this]
theorem Whole.arr (h : Whole k t w g zs) (hB : g < B) : Arr k w B (some ⟨g, 0, none⟩) zs.length zs :=
  ⟨rfl, h.2, fun _ => ⟨g, 0, rfl, hB, fun j hj => by rw [Nat.zero_add]; exact h.cell hj⟩⟩
theorem Whole.below (h : Whole k t w g zs) (hb : Below B w w') (hg : g < B) : Whole k t w' g zs := ⟨(hb.block g hg).trans h.1, h.2⟩
theorem Whole.set_ (h : Whole k t w g zs) (j : Nat) (z : Int) (hz : (Lit.int k z).wf = true) : Whole k t (w.setCell ⟨g, j, none⟩ (.int k z)) g (zs.set j z) := by
  refine ⟨?_, fun y hy => ?_⟩
  · have h1 := h.1
    simp [World.setCell, Array.getElem?_modify, h1, List.map_set]
  · rcases List.mem_or_eq_of_mem_set hy with h1 | h1
    · exact h.2 y h1
    · rw [h1]; exact hz
end
theorem whole_new (k : IntKind) (t : TypeId) (w : World) (zs : List Int) (hz : ∀ z ∈ zs, (Lit.int k z).wf = true) : Whole k t (w.alloc (.cells (zs.map (Value.int k)).toArray t)) w.heap.size zs := ⟨heap_alloc_new w _, hz⟩
theorem Whole.alloc {k : IntKind} {t : TypeId} {w : World} {g : Nat} {zs : List Int} (h : Whole k t w g zs) (o : Obj) : Whole k t (w.alloc o) g zs := ⟨(Below.heap_alloc w o g h.lt).trans h.1, h.2⟩
theorem made_replicate (k : IntKind) (n : Nat) : madeCells #[Value.int k 0] n = ((List.replicate n (0 : Int)).map (Value.int k)).toArray := by
  apply Array.toList_inj.1
  rw [toList_madeCells_one]
  simp
theorem mem_splice {α : Type} {L cs : List α} {off : Nat} {x : α} (h : x ∈ splice L off cs) : x ∈ L ∨ x ∈ cs := by
  unfold splice at h
  rcases List.mem_append.1 h with h | h
  · exact .inl (List.mem_of_mem_take h)
  · rcases List.mem_append.1 h with h | h
    · exact .inr h
    · exact .inl (List.mem_of_mem_drop h)
theorem Whole.setRow {k : IntKind} {t : TypeId} {w : World} {g : Nat} {zs ys : List Int} (h : Whole k t w g zs) (hy : ∀ z ∈ ys, (Lit.int k z).wf = true) : Whole k t (w.setRow g (ys.map (Value.int k)).toArray) g ys :=
  ⟨setRow_heap w g _ _ t _ h.1, hy⟩
theorem Arr.cut {k : IntKind} {w : World} {B n : Nat} {A D : Option Addr} {zs : List Int} (h : Arr k w B A n zs) {p q : Nat} (hpq : p + q ≤ n) (hD : ∀ b off, A = some ⟨b, off, none⟩ → 0 < q → D = some ⟨b, off + p, none⟩) : Arr k w B D q ((zs.drop p).take q) := by
  obtain ⟨hl, hw, hc⟩ := h
  refine ⟨by simp; omega, fun z hz => hw z (List.mem_of_mem_drop (List.mem_of_mem_take hz)), fun hq => ?_⟩
  obtain ⟨b, off, rfl, hb, hcell⟩ := hc (by omega)
  refine ⟨b, off + p, hD b off rfl hq, hb, fun j hj => ?_⟩
  rw [Nat.add_assoc, hcell (p + j) (by omega)]
  simp [nth, hj, List.getElem?_drop]
/-- A slice of integers as it comes in. -/
theorem arr_of_row {k : IntKind} {w : World} {a : Option Addr} {len cap : Nat} {zs : List Int}
    (h : (a = none ∧ len = 0 ∧ cap = 0 ∧ zs = []) ∨ ∃ x, a = some x ∧ len ≤ cap ∧ cap ≤ maxLen ∧ zs.length = cap ∧ (∀ i, i < zs.length → w.cell? (x.add i) = some (.int k (zs.getD i 0))) ∧ ∀ n ∈ zs, (Lit.int k n).wf = true) :
    len ≤ maxLen ∧ len ≤ cap ∧ Arr k w w.heap.size a len (zs.take len) := by
  rcases h with ⟨rfl, rfl, rfl, rfl⟩ | ⟨x, rfl, hl, hm, hz, hcell, hwz⟩
  · exact ⟨Nat.zero_le _, Nat.le_refl _, Arr.zero⟩
  · refine ⟨Nat.le_trans hl hm, hl, by simp; omega, fun z h => hwz z (List.mem_of_mem_take h), fun h0 => ?_⟩
    obtain ⟨b, off, spot⟩ := x
    have hc := hcell 0 (by omega)
    have hspot : spot = none := by simpa [Addr.add] using World.cell?_spot hc
    subst hspot
    have hadd : ∀ j, (⟨b, off, none⟩ : Addr).add j = ⟨b, off + j, none⟩ := fun j => by unfold Addr.add; split <;> simp_all
    refine ⟨b, off, rfl, ?_, fun j hj => ?_⟩
    · rw [hadd] at hc
      rcases Nat.lt_or_ge b w.heap.size with h | h
      · exact h
      · simp [World.cell?, Array.getElem?_eq_none h] at hc
    · rw [← hadd, hcell j (by omega)]
      simp [nth, hj]
theorem below_drewN {B : Nat} {a w : World} (h : Below B a w) (n : Nat) : Below B a (w.drewN n) := ⟨h.os, h.tape, h.output, h.size, h.block⟩
theorem wf_u64 {z : Int} : (Lit.int .u64 z).wf = true ↔ 0 ≤ z ∧ z ≤ 18446744073709551615 := by
  simp [Lit.wf, IntKind.min, IntKind.max, IntKind.signed, IntKind.bits]
theorem wf_i64 {z : Int} : (Lit.int .i64 z).wf = true ↔ -9223372036854775808 ≤ z ∧ z ≤ 9223372036854775807 := by
  simp [Lit.wf, IntKind.min, IntKind.max, IntKind.signed, IntKind.bits]
end Go.Proofs.Ytjefbekdjgmmbaa
namespace Go.Proofs.Ytjefbekdjgmmbaa
open Go.RowKit
/-- What is reached: 'nx' says what an object refers to (a number below 0: nothing). -/
inductive Reach (nx : Int → List Int) (fr : List Int) : Int → Prop
  | base {x : Int} (h : x ∈ fr) : Reach nx fr x
  | step {x y : Int} (h : Reach nx fr x) (hy : y ∈ nx x) (h0 : 0 ≤ y) : Reach nx fr y
section
variable {nx : Int → List Int} {fr : List Int}
/-- It is in every set that has what one begins with and is closed. -/
theorem reach_least {S : Int → Prop} (h0 : ∀ x ∈ fr, S x) (hc : ∀ x, S x → ∀ y ∈ nx x, 0 ≤ y → S y) {x : Int} (h : Reach nx fr x) : S x := by
  induction h with
  | base h => exact h0 _ h
  | step _ hy hp ih => exact hc _ ih _ hy hp
/-- A list that has what one begins with, is closed, and has nothing else. -/
theorem reach_list {X : List Int} (h0 : ∀ x ∈ fr, x ∈ X) (hc : ∀ x ∈ X, ∀ y ∈ nx x, 0 ≤ y → y ∈ X) (hr : ∀ x ∈ X, Reach nx fr x) (x : Int) : x ∈ X ↔ Reach nx fr x :=
  ⟨hr x, reach_least h0 hc⟩
end
/-- A list without doubles that lies in another is no longer. -/
theorem sub_length : ∀ {xs L : List Int}, xs.Nodup → (∀ x ∈ xs, x ∈ L) → xs.length ≤ L.length
  | [], _, _, _ => Nat.zero_le _
  | x :: xs, L, hn, hs => by
    obtain ⟨h1, h2⟩ := List.nodup_cons.1 hn
    have hx := hs x (by simp)
    have := sub_length (xs := xs) (L := L.erase x) h2 fun y hy => by
      have hne : y ≠ x := fun e => h1 (e ▸ hy)
      exact (List.mem_erase_of_ne hne).2 (hs y (by simp [hy]))
    rw [List.length_erase_of_mem hx] at this
    have : 0 < L.length := List.length_pos_of_mem hx
    rw [List.length_cons]
    omega
/-- The marker: what is marked, in order; the stack; was there too little room; how deep the stack was. -/
structure MS where
  on : List Int
  stk : List Int
  over : Bool
  deep : Nat
/-- One is marked. -/
def mk1 (room : Nat) (s : MS) (x : Int) : MS :=
  if x < 0 ∨ x ∈ s.on then s else if room ≤ s.stk.length then { s with on := s.on ++ [x], over := true } else { on := s.on ++ [x], stk := s.stk ++ [x], over := s.over, deep := max s.deep (s.stk.length + 1) }
def mkL (room : Nat) (s : MS) (l : List Int) : MS := l.foldl (mk1 room) s
/-- The top is taken, and what it refers to is marked. -/
def pop1 (nx : Int → List Int) (room : Nat) (s : MS) : MS := mkL room { s with stk := s.stk.dropLast } (nx (s.stk.getLastD 0))
/-- Till the stack is empty, in at most so many steps. -/
def drainF (nx : Int → List Int) (room : Nat) : Nat → MS → MS
  | 0, s => s
  | f + 1, s => if s.stk = [] then s else drainF nx room f (pop1 nx room s)
/-- All is right with a marker over the objects 'L'. -/
structure MOk (L : List Int) (s : MS) : Prop where
  nodup : s.on.Nodup
  sub : ∀ x ∈ s.on, x ∈ L
  stk : ∀ x ∈ s.stk, x ∈ s.on
  snod : s.stk.Nodup
/-- What is left to do. -/
def mu (L : List Int) (s : MS) : Nat := 2 * (L.length - s.on.length) + s.stk.length
section
variable {nx : Int → List Int} {L : List Int} {room : Nat} {s : MS}
theorem MOk.len (h : MOk L s) : s.on.length ≤ L.length := sub_length h.nodup h.sub
theorem MOk.stkLen (h : MOk L s) : s.stk.length ≤ s.on.length := sub_length h.snod h.stk
theorem nodup_snoc {xs : List Int} {x : Int} (h : xs.Nodup) (hx : x ∉ xs) : (xs ++ [x]).Nodup := by
  rw [List.nodup_append]
  refine ⟨h, by simp, fun a ha b hb => ?_⟩
  rw [List.mem_singleton.1 hb]
  exact fun e => hx (e ▸ ha)
/-- One that is marked anew: the number of marked ones grows by one. -/
theorem mk1_cases (room : Nat) (s : MS) (x : Int) : ((x < 0 ∨ x ∈ s.on) ∧ mk1 room s x = s) ∨ (0 ≤ x ∧ x ∉ s.on ∧ room ≤ s.stk.length ∧ mk1 room s x = { s with on := s.on ++ [x], over := true }) ∨
    (0 ≤ x ∧ x ∉ s.on ∧ s.stk.length < room ∧ mk1 room s x = { on := s.on ++ [x], stk := s.stk ++ [x], over := s.over, deep := max s.deep (s.stk.length + 1) }) := by
  unfold mk1
  by_cases h : x < 0 ∨ x ∈ s.on
  · rw [if_pos h]; exact .inl ⟨h, rfl⟩
  · rw [if_neg h]
    have h1 : 0 ≤ x := by rcases Int.lt_or_le x 0 with h2 | h2; exact absurd (.inl h2) h; exact h2
    have h2 : x ∉ s.on := fun h2 => h (.inr h2)
    by_cases h3 : room ≤ s.stk.length
    · rw [if_pos h3]; exact .inr (.inl ⟨h1, h2, h3, rfl⟩)
    · rw [if_neg h3]; exact .inr (.inr ⟨h1, h2, by omega, rfl⟩)
theorem mk1_ok (h : MOk L s) {x : Int} (hx : x < 0 ∨ x ∈ L) : MOk L (mk1 room s x) ∧ mu L (mk1 room s x) ≤ mu L s := by
  rcases mk1_cases room s x with ⟨_, e⟩ | ⟨h0, hn, _, e⟩ | ⟨h0, hn, _, e⟩
  · rw [e]; exact ⟨h, Nat.le_refl _⟩
  · have hL : x ∈ L := hx.resolve_left (by omega)
    have ok : MOk L { s with on := s.on ++ [x], over := true } := ⟨nodup_snoc h.nodup hn, fun y hy => by
      rcases List.mem_append.1 hy with h1 | h1
      · exact h.sub y h1
      · rw [List.mem_singleton.1 h1]; exact hL, fun y hy => List.mem_append_left _ (h.stk y hy), h.snod⟩
    rw [e]
    refine ⟨ok, ?_⟩
    have := ok.len
    unfold mu
    simp only [List.length_append, List.length_singleton] at this ⊢
    omega
  · have hL : x ∈ L := hx.resolve_left (by omega)
    have ok : MOk L { on := s.on ++ [x], stk := s.stk ++ [x], over := s.over, deep := max s.deep (s.stk.length + 1) } := ⟨nodup_snoc h.nodup hn, fun y hy => by
      rcases List.mem_append.1 hy with h1 | h1
      · exact h.sub y h1
      · rw [List.mem_singleton.1 h1]; exact hL, fun y hy => by
      rcases List.mem_append.1 hy with h1 | h1
      · exact List.mem_append_left _ (h.stk y h1)
      · exact List.mem_append_right _ h1, nodup_snoc h.snod fun h1 => hn (h.stk x h1)⟩
    rw [e]
    refine ⟨ok, ?_⟩
    have := ok.len
    unfold mu
    simp only [List.length_append, List.length_singleton] at this ⊢
    omega
theorem mkL_snoc {x : Int} {l : List Int} : mkL room s (l ++ [x]) = mk1 room (mkL room s l) x := by unfold mkL; rw [List.foldl_append]; rfl
theorem mkL_ok : ∀ {l : List Int} {s : MS}, MOk L s → (∀ x ∈ l, x < 0 ∨ x ∈ L) → MOk L (mkL room s l) ∧ mu L (mkL room s l) ≤ mu L s
  | [], s, h, _ => ⟨h, Nat.le_refl _⟩
  | x :: l, s, h, hl => by
    obtain ⟨h1, h2⟩ := mk1_ok (room := room) h (hl x (by simp))
    obtain ⟨h3, h4⟩ := mkL_ok (l := l) h1 fun y hy => hl y (by simp [hy])
    exact ⟨h3, Nat.le_trans h4 h2⟩
/-- Nothing is taken back. -/
theorem mk1_keeps {x y : Int} (h : y ∈ s.on) : y ∈ (mk1 room s x).on := by
  rcases mk1_cases room s x with ⟨_, e⟩ | ⟨_, _, _, e⟩ | ⟨_, _, _, e⟩ <;> rw [e]
  · exact h
  · exact List.mem_append_left _ h
  · exact List.mem_append_left _ h
theorem mkL_keeps : ∀ {l : List Int} {s : MS} {y : Int}, y ∈ s.on → y ∈ (mkL room s l).on
  | [], _, _, h => h
  | _ :: l, _, _, h => mkL_keeps (l := l) (mk1_keeps h)
theorem mk1_has {x : Int} (h : 0 ≤ x) : x ∈ (mk1 room s x).on := by
  rcases mk1_cases room s x with ⟨h1, e⟩ | ⟨_, _, _, e⟩ | ⟨_, _, _, e⟩ <;> rw [e]
  · rcases h1 with h1 | h1
    · omega
    · exact h1
  · simp
  · simp
theorem mkL_has : ∀ {l : List Int} {s : MS} {y : Int}, y ∈ l → 0 ≤ y → y ∈ (mkL room s l).on
  | x :: l, s, y, h, h0 => by
    rcases List.mem_cons.1 h with rfl | h
    · exact mkL_keeps (l := l) (mk1_has h0)
    · exact mkL_has (l := l) h h0
/-- Only what is told is marked. -/
theorem mk1_only {x y : Int} (h : y ∈ (mk1 room s x).on) : y ∈ s.on ∨ (y = x ∧ 0 ≤ x) := by
  rcases mk1_cases room s x with ⟨_, e⟩ | ⟨h0, _, _, e⟩ | ⟨h0, _, _, e⟩ <;> rw [e] at h
  · exact .inl h
  · rcases List.mem_append.1 h with h | h
    · exact .inl h
    · exact .inr ⟨List.mem_singleton.1 h, h0⟩
  · rcases List.mem_append.1 h with h | h
    · exact .inl h
    · exact .inr ⟨List.mem_singleton.1 h, h0⟩
theorem mkL_only : ∀ {l : List Int} {s : MS} {y : Int}, y ∈ (mkL room s l).on → y ∈ s.on ∨ (y ∈ l ∧ 0 ≤ y)
  | [], _, _, h => .inl h
  | x :: l, s, y, h => by
    rcases mkL_only (l := l) h with h | ⟨h, h0⟩
    · rcases mk1_only h with h | ⟨h, h0⟩
      · exact .inl h
      · exact .inr ⟨by simp [h], by omega⟩
    · exact .inr ⟨by simp [h], h0⟩
theorem getLast_mem {xs : List Int} (h : xs ≠ []) : xs.getLastD 0 ∈ xs := by
  obtain ⟨ys, y, rfl⟩ : ∃ ys y, xs = ys ++ [y] := ⟨xs.dropLast, xs.getLast h, (List.dropLast_concat_getLast h).symm⟩
  simp
theorem pop_shape {xs : List Int} (h : xs ≠ []) : xs = xs.dropLast ++ [xs.getLastD 0] := by
  obtain ⟨ys, y, rfl⟩ : ∃ ys y, xs = ys ++ [y] := ⟨xs.dropLast, xs.getLast h, (List.dropLast_concat_getLast h).symm⟩
  simp
/-- The objects are closed: what they refer to is among them. -/
def Closed (nx : Int → List Int) (L : List Int) : Prop := ∀ x ∈ L, ∀ y ∈ nx x, y < 0 ∨ y ∈ L
theorem popped_ok (h : MOk L s) : MOk L { s with stk := s.stk.dropLast } :=
  ⟨h.nodup, h.sub, fun x hx => h.stk x ((List.dropLast_sublist _).subset hx), h.snod.sublist (List.dropLast_sublist _)⟩
theorem pop1_ok (hc : Closed nx L) (h : MOk L s) (hs : s.stk ≠ []) : MOk L (pop1 nx room s) ∧ mu L (pop1 nx room s) + 1 ≤ mu L s := by
  have hL : s.stk.getLastD 0 ∈ L := h.sub _ (h.stk _ (getLast_mem hs))
  obtain ⟨h1, h2⟩ := mkL_ok (room := room) (popped_ok h) (hc _ hL)
  refine ⟨h1, ?_⟩
  have h3 : mu L { s with stk := s.stk.dropLast } + 1 = mu L s := by
    unfold mu
    have : 0 < s.stk.length := List.length_pos_iff.2 hs
    simp only [List.length_dropLast]
    omega
  unfold pop1
  omega
theorem drain_ok (hc : Closed nx L) : ∀ {f : Nat} {s : MS}, MOk L s → mu L s ≤ f → MOk L (drainF nx room f s) ∧ (drainF nx room f s).stk = [] ∧ mu L (drainF nx room f s) ≤ mu L s
  | 0, s, h, hm => by
    refine ⟨h, ?_, Nat.le_refl _⟩
    show s.stk = []
    unfold mu at hm
    exact List.eq_nil_of_length_eq_zero (by omega)
  | f + 1, s, h, hm => by
    unfold drainF
    by_cases hs : s.stk = []
    · rw [if_pos hs]; exact ⟨h, hs, Nat.le_refl _⟩
    · rw [if_neg hs]
      obtain ⟨h1, h2⟩ := pop1_ok (room := room) hc h hs
      obtain ⟨h3, h4, h5⟩ := drain_ok hc (f := f) h1 (by omega)
      exact ⟨h3, h4, by omega⟩
/-- More steps change nothing. -/
theorem drain_same (hc : Closed nx L) : ∀ {f g : Nat} {s : MS}, MOk L s → mu L s ≤ f → mu L s ≤ g → drainF nx room f s = drainF nx room g s
  | 0, 0, _, _, _, _ => rfl
  | 0, g + 1, s, h, hf, _ => by
    have hs : s.stk = [] := (drain_ok (room := room) hc h hf).2.1
    conv => rhs; unfold drainF
    rw [if_pos hs]; rfl
  | f + 1, 0, s, h, _, hg => by
    have hs : s.stk = [] := (drain_ok (room := room) hc h hg).2.1
    conv => lhs; unfold drainF
    rw [if_pos hs]; rfl
  | f + 1, g + 1, s, h, hf, hg => by
    unfold drainF
    by_cases hs : s.stk = []
    · rw [if_pos hs, if_pos hs]
    · rw [if_neg hs, if_neg hs]
      obtain ⟨h1, h2⟩ := pop1_ok (room := room) hc h hs
      exact drain_same hc h1 (by omega) (by omega)
/-- A property that marking one, and taking one off, keeps, draining keeps. -/
theorem drain_keeps {J : MS → Prop} (hp : ∀ s, MOk L s → s.stk ≠ [] → J s → J (pop1 nx room s)) (hc : Closed nx L) : ∀ {f : Nat} {s : MS}, MOk L s → J s → J (drainF nx room f s)
  | 0, _, _, h => h
  | f + 1, s, ho, h => by
    unfold drainF
    by_cases hs : s.stk = []
    · rw [if_pos hs]; exact h
    · rw [if_neg hs]; exact drain_keeps hp hc (pop1_ok hc ho hs).1 (hp s ho hs h)
end
/-- Till the stack is empty. -/
def drain (nx : Int → List Int) (room : Nat) (s : MS) : MS := drainF nx room 1000 s
/-- One object is visited in a further pass. -/
def visit (nx : Int → List Int) (room : Nat) (s : MS) (x : Int) : MS := if x ∈ s.on then drain nx room (mkL room s (nx x)) else s
def sweep (nx : Int → List Int) (room : Nat) (s : MS) (l : List Int) : MS := l.foldl (visit nx room) s
/-- Further passes, at most so many; how many there were. -/
def passF (nx : Int → List Int) (room : Nat) (L : List Int) : Nat → MS → Nat → MS × Nat
  | 0, s, n => (s, n)
  | f + 1, s, n => if s.over = true then passF nx room L f (sweep nx room { s with over := false } L) (n + 1) else (s, n)
def begun (nx : Int → List Int) (room : Nat) (fr : List Int) : MS := drain nx room (mkL room ⟨[], [], false, 0⟩ fr)
/-- All of it. -/
def marking (nx : Int → List Int) (room : Nat) (L fr : List Int) : MS × Nat := passF nx room L 300 (begun nx room fr) 0
section
variable {nx : Int → List Int} {L fr : List Int} {room : Nat} {s : MS}
theorem mu_le (hl : L.length ≤ 256) (h : MOk L s) : mu L s ≤ 1000 := by
  have h1 := h.len
  have h2 := h.stkLen
  unfold mu
  omega
/-- One step of draining. -/
theorem drain_step (hl : L.length ≤ 256) (hc : Closed nx L) (h : MOk L s) (hs : s.stk ≠ []) : drain nx room s = drain nx room (pop1 nx room s) := by
  obtain ⟨h1, h2⟩ := pop1_ok (room := room) hc h hs
  unfold drain
  conv => lhs; unfold drainF
  rw [if_neg hs]
  exact drain_same hc h1 (by have := mu_le hl h; show _ ≤ 999; omega) (mu_le hl h1)
theorem drain_done (hs : s.stk = []) : drain nx room s = s := by
  unfold drain drainF
  rw [if_pos hs]
/-- A state with an empty stack, all right. -/
def MRest (L : List Int) (s : MS) : Prop := MOk L s ∧ s.stk = []
theorem drain_rest (hl : L.length ≤ 256) (hc : Closed nx L) (h : MOk L s) : MRest L (drain nx room s) := by
  obtain ⟨h1, h2, _⟩ := drain_ok (room := room) hc h (mu_le hl h)
  exact ⟨h1, h2⟩
theorem visit_rest (hl : L.length ≤ 256) (hc : Closed nx L) (h : MRest L s) {x : Int} (hx : x ∈ L) : MRest L (visit nx room s x) := by
  unfold visit
  by_cases hon : x ∈ s.on
  · rw [if_pos hon]; exact drain_rest hl hc (mkL_ok h.1 (hc x hx)).1
  · rw [if_neg hon]; exact h
theorem sweep_rest (hl : L.length ≤ 256) (hc : Closed nx L) : ∀ {l : List Int} {s : MS}, MRest L s → (∀ x ∈ l, x ∈ L) → MRest L (sweep nx room s l)
  | [], _, h, _ => h
  | x :: l, s, h, hs => sweep_rest hl hc (l := l) (visit_rest hl hc h (hs x (by simp))) fun y hy => hs y (by simp [hy])
theorem start_ok (hf : ∀ x ∈ fr, x ∈ L) : MOk L (mkL room ⟨[], [], false, 0⟩ fr) := (mkL_ok ⟨List.nodup_nil, by simp, by simp, List.nodup_nil⟩ fun x hx => .inr (hf x hx)).1
theorem begun_rest (hl : L.length ≤ 256) (hc : Closed nx L) (hf : ∀ x ∈ fr, x ∈ L) : MRest L (begun nx room fr) := drain_rest hl hc (start_ok hf)
/-- What a step may do to a marker: nothing is taken back; a new fault of room wants a new mark. -/
structure Grows (s t : MS) : Prop where
  keeps : ∀ x ∈ s.on, x ∈ t.on
  len : s.on.length ≤ t.on.length
  over : s.over = true → t.over = true
  new : s.over = false → t.over = true → s.on.length < t.on.length
theorem Grows.refl (s : MS) : Grows s s := ⟨fun _ h => h, Nat.le_refl _, id, fun h1 h2 => by rw [h1] at h2; cases h2⟩
theorem Grows.trans {s t u : MS} (h : Grows s t) (h' : Grows t u) : Grows s u := by
  refine ⟨fun x hx => h'.keeps x (h.keeps x hx), Nat.le_trans h.len h'.len, fun q => h'.over (h.over q), fun q1 q2 => ?_⟩
  cases ht : t.over
  · have := h'.new ht q2; have := h.len; omega
  · have := h.new q1 ht; have := h'.len; omega
theorem mk1_grows (s : MS) (x : Int) : Grows s (mk1 room s x) := by
  refine ⟨fun _ h => mk1_keeps h, ?_, ?_, ?_⟩ <;> rcases mk1_cases room s x with ⟨_, e⟩ | ⟨_, _, _, e⟩ | ⟨_, _, _, e⟩ <;> rw [e] <;> simp
theorem mkL_grows : ∀ (l : List Int) (s : MS), Grows s (mkL room s l)
  | [], s => Grows.refl s
  | x :: l, s => (mk1_grows s x).trans (mkL_grows l _)
theorem popped_grows (s : MS) (k : List Int) : Grows s { s with stk := k } := ⟨fun _ h => h, Nat.le_refl _, id, fun h1 h2 => by
  have h3 : s.over = true := h2
  rw [h1] at h3; cases h3⟩
theorem drainF_grows : ∀ (f : Nat) (s : MS), Grows s (drainF nx room f s)
  | 0, s => Grows.refl s
  | f + 1, s => by
    unfold drainF
    split
    · exact Grows.refl s
    · exact ((popped_grows s _).trans (mkL_grows _ _)).trans (drainF_grows f _)
theorem visit_grows (s : MS) (x : Int) : Grows s (visit nx room s x) := by
  unfold visit
  split
  · exact (mkL_grows _ s).trans (drainF_grows _ _)
  · exact Grows.refl s
theorem sweep_grows : ∀ (l : List Int) (s : MS), Grows s (sweep nx room s l)
  | [], s => Grows.refl s
  | x :: l, s => (visit_grows s x).trans (sweep_grows l _)
/-- How deep: never more than there is room. -/
theorem mk1_deep (h : s.deep ≤ room) (x : Int) : (mk1 room s x).deep ≤ room := by
  rcases mk1_cases room s x with ⟨_, e⟩ | ⟨_, _, _, e⟩ | ⟨_, _, hr, e⟩ <;> rw [e]
  · exact h
  · exact h
  · show max s.deep (s.stk.length + 1) ≤ room
    omega
theorem mkL_deep : ∀ (l : List Int) {s : MS}, s.deep ≤ room → (mkL room s l).deep ≤ room
  | [], _, h => h
  | x :: l, _, h => mkL_deep l (mk1_deep h x)
theorem drainF_deep : ∀ (f : Nat) {s : MS}, s.deep ≤ room → (drainF nx room f s).deep ≤ room
  | 0, _, h => h
  | f + 1, s, h => by
    unfold drainF
    split
    · exact h
    · exact drainF_deep f (mkL_deep (s := { s with stk := s.stk.dropLast }) _ h)
/-- What an object refers to is marked. -/
def DoneAt (nx : Int → List Int) (s : MS) (x : Int) : Prop := ∀ y ∈ nx x, 0 ≤ y → y ∈ s.on
/-- While there was room: each that is marked lies on the stack, or is done, or is still to be visited. -/
def Held (nx : Int → List Int) (V : Int → Prop) (s : MS) : Prop := s.over = false → ∀ x ∈ s.on, x ∈ s.stk ∨ DoneAt nx s x ∨ V x
theorem DoneAt.grows {t : MS} {x : Int} (h : DoneAt nx s x) (hg : ∀ y ∈ s.on, y ∈ t.on) : DoneAt nx t x := fun y hy h0 => hg y (h y hy h0)
theorem mk1_held {V : Int → Prop} (h : Held nx V s) (x : Int) : Held nx V (mk1 room s x) := by
  rcases mk1_cases room s x with ⟨_, e⟩ | ⟨_, _, _, e⟩ | ⟨_, _, _, e⟩
  · rw [e]; exact h
  · rw [e]; intro ho; cases ho
  · have hk : ∀ y ∈ s.on, y ∈ (mk1 room s x).on := fun y hy => mk1_keeps hy
    rw [e] at hk ⊢
    intro ho y hy
    rcases List.mem_append.1 hy with hy | hy
    · rcases h ho y hy with h1 | h1 | h1
      · exact .inl (List.mem_append_left _ h1)
      · exact .inr (.inl (h1.grows hk))
      · exact .inr (.inr h1)
    · exact .inl (List.mem_append_right _ hy)
theorem mkL_held {V : Int → Prop} : ∀ {l : List Int} {s : MS}, Held nx V s → Held nx V (mkL room s l)
  | [], _, h => h
  | x :: l, _, h => mkL_held (l := l) (mk1_held h x)
/-- The top is taken: it is done now. -/
theorem pop1_held {V : Int → Prop} (hs : s.stk ≠ []) (h : Held nx V s) : Held nx V (pop1 nx room s) := by
  have h1 : Held nx (fun x => V x ∨ x = s.stk.getLastD 0) { s with stk := s.stk.dropLast } := by
    intro ho x hx
    rcases h ho x hx with h2 | h2 | h2
    · rw [pop_shape hs] at h2
      rcases List.mem_append.1 h2 with h2 | h2
      · exact .inl h2
      · exact .inr (.inr (.inr (List.mem_singleton.1 h2)))
    · exact .inr (.inl h2)
    · exact .inr (.inr (.inl h2))
  have h2 := mkL_held (room := room) (l := nx (s.stk.getLastD 0)) h1
  intro ho x hx
  rcases h2 ho x hx with h3 | h3 | h3 | h3
  · exact .inl h3
  · exact .inr (.inl h3)
  · exact .inr (.inr h3)
  · subst h3
    exact .inr (.inl fun y hy h0 => mkL_has hy h0)
theorem drain_held {V : Int → Prop} : ∀ {f : Nat} {s : MS}, Held nx V s → Held nx V (drainF nx room f s)
  | 0, _, h => h
  | f + 1, s, h => by
    unfold drainF
    by_cases hs : s.stk = []
    · rw [if_pos hs]; exact h
    · rw [if_neg hs]; exact drain_held (pop1_held hs h)
/-- A visit: one less to be visited. -/
theorem visit_held {V : Int → Prop} {x : Int} (h : Held nx (fun y => V y ∨ y = x) s) : Held nx V (visit nx room s x) := by
  unfold visit
  by_cases hon : x ∈ s.on
  · rw [if_pos hon]
    refine drain_held ?_
    have h1 := mkL_held (room := room) (l := nx x) h
    intro ho y hy
    rcases h1 ho y hy with h2 | h2 | h2 | h2
    · exact .inl h2
    · exact .inr (.inl h2)
    · exact .inr (.inr h2)
    · subst h2
      exact .inr (.inl fun z hz h0 => mkL_has hz h0)
  · rw [if_neg hon]
    intro ho y hy
    rcases h ho y hy with h2 | h2 | h2 | h2
    · exact .inl h2
    · exact .inr (.inl h2)
    · exact .inr (.inr h2)
    · subst h2; exact absurd hy hon
theorem sweep_held : ∀ {l : List Int} {s : MS}, Held nx (fun y => y ∈ l) s → Held nx (fun _ => False) (sweep nx room s l)
  | [], s, h => fun ho x hx => by
    rcases h ho x hx with h1 | h1 | h1
    · exact .inl h1
    · exact .inr (.inl h1)
    · cases h1
  | x :: l, s, h => by
    refine sweep_held (l := l) (visit_held (V := fun y => y ∈ l) ?_)
    intro ho y hy
    rcases h ho y hy with h1 | h1 | h1
    · exact .inl h1
    · exact .inr (.inl h1)
    · rcases List.mem_cons.1 h1 with h1 | h1
      · exact .inr (.inr (.inr h1))
      · exact .inr (.inr (.inl h1))
/-- All that is marked is reached. -/
def Sound (nx : Int → List Int) (fr : List Int) (s : MS) : Prop := ∀ x ∈ s.on, Reach nx fr x
theorem mkL_sound {l : List Int} (h : Sound nx fr s) (hl : ∀ y ∈ l, 0 ≤ y → Reach nx fr y) : Sound nx fr (mkL room s l) := fun x hx => by
  rcases mkL_only hx with h1 | ⟨h1, h0⟩
  · exact h x h1
  · exact hl x h1 h0
theorem drain_sound (hc : Closed nx L) {f : Nat} (ho : MOk L s) (h : Sound nx fr s) : Sound nx fr (drainF nx room f s) :=
  drain_keeps (L := L) (J := Sound nx fr) (fun s hk hs h => mkL_sound (s := { s with stk := s.stk.dropLast }) h fun _ hy h0 => .step (h _ (hk.stk _ (getLast_mem hs))) hy h0) hc ho h
theorem visit_sound (hc : Closed nx L) (ho : MOk L s) (h : Sound nx fr s) {x : Int} (hx : x ∈ L) : Sound nx fr (visit nx room s x) := by
  unfold visit
  by_cases hon : x ∈ s.on
  · rw [if_pos hon]
    exact drain_sound hc (mkL_ok ho (hc x hx)).1 (mkL_sound h fun y hy h0 => .step (h x hon) hy h0)
  · rw [if_neg hon]; exact h
theorem sweep_sound (hl : L.length ≤ 256) (hc : Closed nx L) : ∀ {l : List Int} {s : MS}, MRest L s → (∀ x ∈ l, x ∈ L) → Sound nx fr s → Sound nx fr (sweep nx room s l)
  | [], _, _, _, h => h
  | x :: l, s, hr, hs, h => sweep_sound hl hc (l := l) (visit_rest hl hc hr (hs x (by simp))) (fun y hy => hs y (by simp [hy])) (visit_sound hc hr.1 h (hs x (by simp)))
/-- What holds between the passes. -/
structure Between (nx : Int → List Int) (L fr : List Int) (s : MS) (n : Nat) : Prop where
  rest : MRest L s
  held : Held nx (fun _ => False) s
  sound : Sound nx fr s
  has : ∀ x ∈ fr, x ∈ s.on
  many : s.over = true → n + 1 ≤ s.on.length
  some : n ≤ s.on.length
theorem begun_between (hl : L.length ≤ 256) (hc : Closed nx L) (hf : ∀ x ∈ fr, x ∈ L) (h0 : ∀ x ∈ L, 0 ≤ x) : Between nx L fr (begun nx room fr) 0 := by
  have hg : Grows (mkL room ⟨[], [], false, 0⟩ fr) (begun nx room fr) := drainF_grows _ _
  have hg0 : Grows ⟨[], [], false, 0⟩ (begun nx room fr) := (mkL_grows fr _).trans hg
  refine ⟨begun_rest hl hc hf, drain_held (mkL_held fun _ x hx => by cases hx), drain_sound hc (start_ok hf) (mkL_sound (fun x hx => by cases hx) fun _ hy _ => .base hy), fun x hx => hg.keeps x (mkL_has hx (h0 x (hf x hx))), fun ho => ?_, Nat.zero_le _⟩
  have := hg0.new rfl ho
  simp only [List.length_nil] at this
  omega
theorem sweep_between (hl : L.length ≤ 256) (hc : Closed nx L) {n : Nat} (h : Between nx L fr s n) (ho : s.over = true) : Between nx L fr (sweep nx room { s with over := false } L) (n + 1) ∧ ((sweep nx room { s with over := false } L).over = true → s.on.length < (sweep nx room { s with over := false } L).on.length) := by
  have hr : MRest L { s with over := false } := ⟨⟨h.rest.1.nodup, h.rest.1.sub, h.rest.1.stk, h.rest.1.snod⟩, h.rest.2⟩
  have hg := sweep_grows (nx := nx) (room := room) L { s with over := false }
  have hm := h.many ho
  refine ⟨⟨sweep_rest hl hc hr fun x hx => hx, sweep_held fun _ x hx => .inr (.inr (h.rest.1.sub x hx)), sweep_sound hl hc hr (fun x hx => hx) h.sound, fun x hx => hg.keeps x (h.has x hx), fun q => ?_, ?_⟩, fun q => hg.new rfl q⟩
  · have := hg.new rfl q
    have : s.on.length < (sweep nx room { s with over := false } L).on.length := this
    omega
  · have := hg.len
    have : s.on.length ≤ (sweep nx room { s with over := false } L).on.length := this
    omega
/-- One pass more. -/
theorem passF_on {f n : Nat} (h : s.over = true) : passF nx room L (f + 1) s n = passF nx room L f (sweep nx room { s with over := false } L) (n + 1) := by
  conv => lhs; unfold passF
  rw [if_pos h]
theorem passF_off {f n : Nat} (h : s.over = false) : passF nx room L f s n = (s, n) := by
  cases f with
  | zero => rfl
  | succ f =>
    unfold passF
    rw [if_neg (by rw [h]; decide)]
/-- In as many passes as there are objects left, and one, all is done. -/
theorem passF_end (hl : L.length ≤ 256) (hc : Closed nx L) : ∀ {f : Nat} {s : MS} {n : Nat}, Between nx L fr s n → L.length - s.on.length < f → Between nx L fr (passF nx room L f s n).1 (passF nx room L f s n).2 ∧ (passF nx room L f s n).1.over = false
  | 0, _, _, _, hf => absurd hf (by omega)
  | f + 1, s, n, h, hf => by
    cases ho : s.over
    · rw [passF_off ho]; exact ⟨h, ho⟩
    · rw [passF_on ho]
      obtain ⟨h1, h2⟩ := sweep_between (room := room) hl hc h ho
      cases ho' : (sweep nx room { s with over := false } L).over
      · rw [passF_off ho']; exact ⟨h1, ho'⟩
      · have h3 := h2 ho'
        have h4 := h1.rest.1.len
        exact passF_end hl hc h1 (by omega)
/-- The fuel does not matter. -/
theorem passF_same (hl : L.length ≤ 256) (hc : Closed nx L) : ∀ {f g : Nat} {s : MS} {n : Nat}, Between nx L fr s n → L.length - s.on.length < f → L.length - s.on.length < g → passF nx room L f s n = passF nx room L g s n
  | 0, _, _, _, _, hf, _ => absurd hf (by omega)
  | _ + 1, 0, _, _, _, _, hg => absurd hg (by omega)
  | f + 1, g + 1, s, n, h, hf, hg => by
    cases ho : s.over
    · rw [passF_off ho, passF_off ho]
    · rw [passF_on ho, passF_on ho]
      obtain ⟨h1, h2⟩ := sweep_between (room := room) hl hc h ho
      cases ho' : (sweep nx room { s with over := false } L).over
      · rw [passF_off ho', passF_off ho']
      · have h3 := h2 ho'
        have h4 := h1.rest.1.len
        exact passF_same hl hc h1 (by omega) (by omega)
/-- One pass more, of all. -/
theorem pass_step (hl : L.length ≤ 256) (hc : Closed nx L) {n : Nat} (h : Between nx L fr s n) (ho : s.over = true) : passF nx room L 300 s n = passF nx room L 300 (sweep nx room { s with over := false } L) (n + 1) := by
  rw [show (300 : Nat) = 299 + 1 from rfl, passF_on ho]
  exact passF_same hl hc (sweep_between hl hc h ho).1 (by omega) (by omega)
/-- However little room: just what is reached is marked; no more passes than marked ones. -/
theorem marking_tells (hl : L.length ≤ 256) (hc : Closed nx L) (hf : ∀ x ∈ fr, x ∈ L) (h0 : ∀ x ∈ L, 0 ≤ x) :
    (∀ x, x ∈ (marking nx room L fr).1.on ↔ Reach nx fr x) ∧ (marking nx room L fr).1.on.Nodup ∧ (∀ x ∈ (marking nx room L fr).1.on, x ∈ L) ∧ (marking nx room L fr).2 ≤ (marking nx room L fr).1.on.length := by
  obtain ⟨h1, h2⟩ := passF_end (f := 300) (room := room) hl hc (begun_between (room := room) hl hc hf h0) (by omega)
  refine ⟨fun x => reach_list h1.has (fun x hx y hy hp => ?_) h1.sound x, h1.rest.1.nodup, h1.rest.1.sub, h1.some⟩
  rcases h1.held h2 x hx with h3 | h3 | h3
  · rw [h1.rest.2] at h3; cases h3
  · exact h3 y hy hp
  · cases h3
end
theorem nth_mem {l : List Int} {j : Nat} (h : j < l.length) : nth l j ∈ l := by rw [nth_get _ _ h]; exact List.getElem_mem _
end Go.Proofs.Ytjefbekdjgmmbaa
namespace Go.Proofs.Ytjefbekdjgmmbaa
open Go.RowKit
/-- An arena, words, and how long they may be. -/
structure ArenaFrom (w : World) (A F : Option Addr) (n c nf cf : Nat) (zs fr : List Int) : Prop where
  arena : Arr .u64 w w.heap.size A n zs
  from_ : Arr .i64 w w.heap.size F nf fr
  hn : n * 8 ≤ 140737488355328
  hnc : n ≤ c
  hnf : nf * 8 ≤ 140737488355328
  hfc : nf ≤ cf
theorem ArenaFrom.later {w w' : World} {A F : Option Addr} {n c nf cf : Nat} {zs fr : List Int} (h : ArenaFrom w A F n c nf cf zs fr) (hb : Below w.heap.size w w') : ArenaFrom w' A F n c nf cf zs fr :=
  ⟨(h.arena.below hb (Nat.le_refl _)).more hb.size, (h.from_.below hb (Nat.le_refl _)).more hb.size, h.hn, h.hnc, h.hnf, h.hfc⟩
end Go.Proofs.Ytjefbekdjgmmbaa
