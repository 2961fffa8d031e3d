/-
  Parts of the proof of SameForms: GapM, TintH.
-/
import Derived.Test.YtjefbekdjgmmbaaSameFormsAc
import Derived.Test.YtjefbekdjgmmbaaSameFormsAd
import Derived.Test.YtjefbekdjgmmbaaSameFormsAe
namespace Go.Proofs.Ytjefbekdjgmmbaa
open Go.RowKit
section
variable {zs : List Int}
/-- Objects do not overlap. -/
theorem begins_apart : ∀ {a s t : Nat}, s ∈ begins zs a → t ∈ begins zs a → s < t → s + sLong (nth zs s) ≤ t := by
  intro a
  induction hk : zs.length - a using Nat.strongRecOn generalizing a with
  | ind k ih =>
    intro s t hs ht hlt
    by_cases h : a < zs.length
    · cases hst : stepOk zs a
      · rw [begins, if_pos h, hst] at hs; simp at hs
      · rw [begins_step h hst] at hs ht
        have hp := sLong_pos (nth zs a)
        rcases List.mem_cons.1 hs with hs | hs
        · subst hs
          rcases List.mem_cons.1 ht with ht | ht
          · omega
          · exact (begins_mem ht).1
        · rcases List.mem_cons.1 ht with ht | ht
          · have := (begins_mem hs).1; omega
          · exact ih (zs.length - (a + sLong (nth zs a))) (by omega) rfl hs ht hlt
    · rw [begins_end (by omega)] at hs; cases hs
/-- The runs up to the end of an object. -/
def ext (l : List (Int × Int)) (r : Int × Int) : List (Int × Int) :=
  if l.length = 0 ∨ (nthG l (l.length - 1)).1 + (nthG l (l.length - 1)).2 ≠ r.1 then l ++ [r] else l.set (l.length - 1) ((nthG l (l.length - 1)).1, (nthG l (l.length - 1)).2 + r.2)
end
section
variable {zs ys : List Int} {a n : Nat} {v : Int}
theorem nth_replicate (n k : Nat) : nth (List.replicate n (0 : Int)) k = 0 := by
  unfold nth
  simp [List.getD, List.getElem?_replicate]
  split <;> rfl
end
end Go.Proofs.Ytjefbekdjgmmbaa
namespace Go.Proofs.Ytjefbekdjgmmbaa
open Go.RowKit
open Go.Maps (Keyed int_keyed keyOf_int_mk)
/-- What is known of a map type's parts; 'z' is the elements' zero. -/
structure MapVT (P : Program) (q : IntKind) (t k e : TypeId) (z : Value) : Prop where
  map : P.underlying t = some (.map k e)
  key : P.underlying k = some (.int q)
  zero : ∀ w : World, (zeroValue e).run P w = .ok z w
/-- A value stands for itself. -/
def asV (v : Value) : Option (DataW Value × List MemPlace) := some (.held v, [])
/-- Block 'b' is a map of at most 'n' entries that holds just what 'f' says. -/
def MapV (P : Program) (q : IntKind) (k : TypeId) (w : World) (b n : Nat) (f : Int → Option Value) : Prop :=
  ∃ D : DataW Value, w.ownsMap P k asV b n D ∧ Maps.IsMap D ∧ ∀ x, Maps.has D (.int q x) = (f x).isSome ∧ ∀ z, D.atKey (.int q x) (.held z) = .held ((f x).getD z)
/-- 'f' with 'y' at 'x'. -/
def putV (f : Int → Option Value) (x : Int) (y : Value) : Int → Option Value := fun j => if j = x then some y else f j
theorem putV_same (f : Int → Option Value) (x : Int) (y : Value) : putV f x y x = some y := if_pos rfl
theorem putV_other (f : Int → Option Value) {x j : Int} {y : Value} (h : j ≠ x) : putV f x y j = f j := if_neg h
section
variable {P : Program} {q : IntKind} {t k e : TypeId} {z : Value} {w w' : World} {b n : Nat} {f : Int → Option Value}
theorem MapV.made (P : Program) (q : IntKind) (k : TypeId) (w : World) : MapV P q k (w.alloc (.map #[] 0)) w.heap.size 0 (fun _ => none) :=
  ⟨.map [], World.ownsMap_made _ _ _ _, ⟨[], rfl⟩, fun _ => ⟨rfl, fun _ => rfl⟩⟩
theorem MapV.lt (h : MapV P q k w b n f) : b < w.heap.size := by
  obtain ⟨D, h, _⟩ := h
  exact h.lt
theorem MapV.keep (h : MapV P q k w b n f) (he : w'.heap[b]? = w.heap[b]?) : MapV P q k w' b n f := by
  obtain ⟨D, ⟨es, c, h1, h2⟩, h3⟩ := h
  exact ⟨D, ⟨es, c, he.trans h1, h2⟩, h3⟩
theorem MapV.below {B : Nat} (h : MapV P q k w b n f) (hb : Below B w w') (hB : b < B) : MapV P q k w' b n f := h.keep (hb.block b hB)
theorem MapV.alloc (h : MapV P q k w b n f) (o : Obj) : MapV P q k (w.alloc o) b n f := h.keep (Below.heap_alloc w o b h.lt)
theorem MapV.drewN (h : MapV P q k w b n f) (m : Nat) : MapV P q k (w.drewN m) b n f := h
theorem MapV.setOther {g : Nat} (h : MapV P q k w b n f) (hg : g ≠ b) (j : Nat) (d : Value) : MapV P q k (w.setCell ⟨g, j, none⟩ d) b n f := h.keep (by
  show (w.heap.modify g _)[b]? = _
  rw [Array.getElem?_modify, if_neg hg])
theorem MapV.mono (h : MapV P q k w b n f) {n' : Nat} (hn : n ≤ n') : MapV P q k w b n' f := by
  obtain ⟨D, h1, h3⟩ := h
  exact ⟨D, h1.mono hn, h3⟩
/-- 'm[x]'. -/
theorem MapV.look (T : MapVT P q t k e z) (h : MapV P q k w b n f) {x : Int} (hx : (Lit.int q x).wf = true) : Sem.run P (Instr.lookup t (.map (some b)) (.int q x) false) w = .ok ((f x).getD z) w := by
  obtain ⟨D, h1, _, h3⟩ := h
  obtain ⟨v, ps, hr, hv⟩ := h1.lookup (int_keyed T.key) T.map (T.zero w) (zd := .held z) (zp := []) rfl (keyOf_int_mk T.key hx)
  rw [(h3 x).2 z] at hv
  unfold asV at hv
  injection hv with hv
  injection hv with hv _
  injection hv with hv
  rw [← hv]; exact hr
/-- 'v, ok := m[x]'. -/
theorem MapV.lookOk (T : MapVT P q t k e z) (h : MapV P q k w b n f) {x : Int} (hx : (Lit.int q x).wf = true) : Sem.run P (Instr.lookup t (.map (some b)) (.int q x) true) w = .ok (.tuple #[(f x).getD z, .bool (f x).isSome]) w := by
  obtain ⟨D, h1, _, h3⟩ := h
  obtain ⟨v, ps, hr, hv⟩ := h1.look_ok (int_keyed T.key) T.map (T.zero w) (zd := .held z) (zp := []) rfl (keyOf_int_mk T.key hx)
  rw [(h3 x).2 z] at hv
  unfold asV at hv
  injection hv with hv
  injection hv with hv _
  injection hv with hv
  rw [← hv, ← (h3 x).1]; exact hr
/-- 'm[x] = y'. -/
theorem MapV.store (T : MapVT P q t k e z) (h : MapV P q k w b n f) (hn : n < maxLen) {x : Int} {y : Value} (hx : (Lit.int q x).wf = true) :
    ∃ w', Sem.run P (Instr.mapUpdate t (.map (some b)) (.int q x) y) w = .ok () w' ∧ MapV P q k w' b (n + 1) (putV f x y) ∧ w.grownBy w' (some b) := by
  obtain ⟨D, h1, h2, h3⟩ := h
  have hk := keyOf_int_mk (P := P) T.key hx
  obtain ⟨w', hr, ho, hg⟩ := h1.store (int_keyed T.key) T.map hn hk (val := y) (d := .held y) (ps := []) rfl
  have hkl : WideAt.IsKeyLit (.int q x) := (int_keyed T.key).key hk
  refine ⟨w', hr, ⟨_, ho, h2.put _ _, fun j => ?_⟩, hg.grown⟩
  by_cases hj : j = x
  · subst hj
    rw [Maps.has_put_same h2 hkl, putV_same]
    exact ⟨rfl, fun z => by rw [Maps.atKey_put_same h2 hkl]; rfl⟩
  · have hne : (Lit.int q j) ≠ .int q x := fun e => hj (by injection e)
    rw [Maps.has_put_other hne, putV_other _ hj]
    exact ⟨(h3 j).1, fun z => by rw [Maps.atKey_put_other hne]; exact (h3 j).2 z⟩
end
/-- 'm[x] = y' as a step of the walk. -/
theorem wpList_store_mapV {P : Program} {q : IntKind} {t k e : TypeId} {z : Value} (T : MapVT P q t k e z) (w : World) {ops : Array Oper} {rest : List Oper} {o : Oper} {a : Act} {Q : Exit → Act → World → Prop} (hgd : o.guard = none) (m x v : Operand) (hop : o.op = .mapUpdate t m x v)
    {b n : Nat} {f : Int → Option Value} {X : Int} {Y : Value} (hm : a.eval m = .map (some b)) (hx : a.eval x = .int q X) (hv : a.eval v = Y) (h : MapV P q k w b n f) (hn : n < maxLen) (wX : (Lit.int q X).wf = true)
    (hK : ∀ w', MapV P q k w' b (n + 1) (putV f X Y) → w.grownBy w' (some b) → wpList P ops Q rest (a.put o.dst undef) w') : wpList P ops Q (o :: rest) a w := by
  refine wpList_plain hgd fun K' hK' => ?_
  obtain ⟨w', hrun, r1, r2⟩ := h.store T hn (y := Y) wX
  unfold Oper.wp
  simp [execOp, hop, hm, hx, hv, hrun, Result.andThen]
  exact hK' _ _ (hK w' r1 r2)
/-- How many words the object at 's' takes. -/
def longN (zs : List Int) (s : Nat) : Nat := sLong (nth zs s)
/-- Does one of the objects take word 'k'? -/
def coversN (zs : List Int) (X : List Nat) (k : Nat) : Bool := X.any fun x => decide (x ≤ k ∧ k < x + longN zs x)
theorem coversN_iff {zs : List Int} {X : List Nat} {k : Nat} : coversN zs X k = true ↔ ∃ x ∈ X, x ≤ k ∧ k < x + longN zs x := by simp [coversN]
section
variable {zs : List Int} {X : List Nat}
/-- Two objects that take one word are one. -/
theorem one_object {x y k : Nat} (hx : x ∈ begins zs 0) (hy : y ∈ begins zs 0) (h1 : x ≤ k ∧ k < x + longN zs x) (h2 : y ≤ k ∧ k < y + longN zs y) : x = y := by
  rcases Nat.lt_trichotomy x y with h | h | h
  · have := begins_apart hx hy h
    unfold longN at h1
    omega
  · exact h
  · have := begins_apart hy hx h
    unfold longN at h2
    omega
/-- The first word of an object is taken just if the object is among them. -/
theorem covers_at (hX : ∀ x ∈ X, x ∈ begins zs 0) {s : Nat} (hs : s ∈ begins zs 0) : coversN zs X s = true ↔ s ∈ X := by
  have hp : s ≤ s ∧ s < s + longN zs s := ⟨Nat.le_refl _, by have := sLong_pos (nth zs s); unfold longN; omega⟩
  rw [coversN_iff]
  constructor
  · rintro ⟨x, hx, h⟩
    rw [← one_object (hX x hx) hs h hp]; exact hx
  · exact fun h => ⟨s, h, hp⟩
end
/-- The header of the object at a word. -/
def headV (zs : List Int) (s : Nat) : Value := .agg #[.int .i64 (vR (nth zs s)), .int .i64 (vB (nth zs s)), .int .i64 (vT (nth zs s)), .bool (vF (nth zs s))]
/-- Those of the first 'k' objects that are not free. -/
def liveTo (zs : List Int) (k : Nat) : List Int := (((begins zs 0).take k).filter (isLive zs)).map (fun s : Nat => (s : Int))
/-- Their headers. -/
def hdTo (zs : List Int) (k : Nat) : Int → Option Value := fun x => if x ∈ liveTo zs k then some (headV zs x.toNat) else none
/-- What an object refers to. -/
def nxOf (zs : List Int) (x : Int) : List Int := named zs x.toNat
/-- The error of an arena and of words from which one begins. -/
def fromE (zs fr : List Int) : Int := if arErr zs = 0 then (if ∀ x ∈ fr, x ∈ livesI zs then 0 else 5) else arErr zs
section
variable {zs fr : List Int}
theorem fromE_arena (h : arErr zs ≠ 0) : fromE zs fr = arErr zs := by unfold fromE; rw [if_neg h]
theorem fromE_ok (h : arErr zs = 0) (hf : ∀ x ∈ fr, x ∈ livesI zs) : fromE zs fr = 0 := by unfold fromE; rw [if_pos h, if_pos hf]
theorem fromE_none (h : arErr zs = 0) {x : Int} (hx : x ∈ fr) (hn : x ∉ livesI zs) : fromE zs fr = 5 := by unfold fromE; rw [if_pos h, if_neg fun hf => hn (hf x hx)]
theorem fromE_zero (h : fromE zs fr = 0) : arErr zs = 0 ∧ ∀ x ∈ fr, x ∈ livesI zs := by
  unfold fromE at h
  split at h
  · rename_i h0
    split at h
    · rename_i h1; exact ⟨h0, h1⟩
    · omega
  · rename_i h0; exact absurd h h0
theorem liveTo_zero : liveTo zs 0 = [] := rfl
theorem liveTo_all : liveTo zs (begins zs 0).length = livesI zs := by unfold liveTo livesI; rw [List.take_length]
theorem take_begins {k : Nat} (h : k < (begins zs 0).length) : (begins zs 0).take (k + 1) = (begins zs 0).take k ++ [st zs k] := by
  rw [List.take_succ_eq_append_getElem h]
  unfold st
  rw [nthG_get _ _ h]
theorem liveTo_yes {k : Nat} (h : k < (begins zs 0).length) (hf : vF (nth zs (st zs k)) = false) : liveTo zs (k + 1) = liveTo zs k ++ [(st zs k : Int)] := by
  unfold liveTo
  rw [take_begins h, List.filter_append, List.map_append]
  simp [isLive, hf]
theorem liveTo_no {k : Nat} (h : k < (begins zs 0).length) (hf : vF (nth zs (st zs k)) = true) : liveTo zs (k + 1) = liveTo zs k := by
  unfold liveTo
  rw [take_begins h, List.filter_append, List.map_append]
  simp [isLive, hf]
theorem hdTo_zero : hdTo zs 0 = fun _ => none := by funext x; simp [hdTo, liveTo_zero]
theorem hdTo_yes {k : Nat} (h : k < (begins zs 0).length) (hf : vF (nth zs (st zs k)) = false) : hdTo zs (k + 1) = putV (hdTo zs k) (st zs k : Int) (headV zs (st zs k)) := by
  funext x
  unfold hdTo putV
  rw [liveTo_yes h hf]
  by_cases hx : x = (st zs k : Int)
  · subst hx; simp
  · rw [if_neg hx]
    have : x ∈ liveTo zs k ++ [(st zs k : Int)] ↔ x ∈ liveTo zs k := by simp [hx]
    simp only [this]
theorem hdTo_no {k : Nat} (h : k < (begins zs 0).length) (hf : vF (nth zs (st zs k)) = true) : hdTo zs (k + 1) = hdTo zs k := by
  unfold hdTo; rw [liveTo_no h hf]
/-- All headers. -/
def hdOf (zs : List Int) : Int → Option Value := hdTo zs (begins zs 0).length
theorem hdOf_in {x : Int} (h : x ∈ livesI zs) : hdOf zs x = some (headV zs x.toNat) := by unfold hdOf hdTo; rw [liveTo_all, if_pos h]
theorem hdOf_isSome (x : Int) : (hdOf zs x).isSome = decide (x ∈ livesI zs) := by
  unfold hdOf hdTo; rw [liveTo_all]
  by_cases h : x ∈ livesI zs <;> simp [h]
theorem liveTo_len (k : Nat) : (liveTo zs k).length ≤ k := by
  unfold liveTo
  rw [List.length_map]
  exact Nat.le_trans (List.length_filter_le _ _) (by rw [List.length_take]; omega)
theorem lives_mem {x : Int} : x ∈ livesI zs ↔ ∃ s : Nat, s ∈ begins zs 0 ∧ vF (nth zs s) = false ∧ x = s := by
  rw [mem_lives]
  constructor
  · rintro ⟨j, hj, rfl, hf⟩; exact ⟨st zs j, st_mem hj, hf, rfl⟩
  · rintro ⟨s, hs, hf, rfl⟩
    obtain ⟨j, hj, rfl⟩ := mem_begins hs
    exact ⟨j, hj, rfl, hf⟩
theorem lives_pos : ∀ x ∈ livesI zs, 0 ≤ x := fun x hx => by
  obtain ⟨s, _, _, rfl⟩ := lives_mem.1 hx; omega
theorem lives_lt {x : Int} (h : x ∈ livesI zs) : 0 ≤ x ∧ x < zs.length := by
  obtain ⟨s, hs, _, rfl⟩ := lives_mem.1 h
  have := (begins_mem hs).2.1
  omega
theorem lives_len (hl : zs.length ≤ 256) : (livesI zs).length ≤ 256 := by
  unfold livesI
  rw [List.length_map]
  have h1 := List.length_filter_le (isLive zs) (begins zs 0)
  have h2 := begins_len (zs := zs) (a := 0)
  omega
/-- The objects that are not free are closed. -/
theorem lives_closed (hz : ∀ z ∈ zs, (Lit.int .u64 z).wf = true) (h : arErr zs = 0) : Closed (nxOf zs) (livesI zs) := by
  obtain ⟨h1, h2⟩ := arErr_zero h
  obtain ⟨h3, _⟩ := spErr_zero h1
  intro x hx y hy
  obtain ⟨s, hs, hf, rfl⟩ := lives_mem.1 hx
  unfold nxOf at hy
  rw [Int.toNat_natCast] at hy
  rcases (refsOk_iff hz h3).1 h2 s hs hf y hy with h4 | h4
  · exact .inl (by omega)
  · exact .inr h4
theorem arena_len (h : arErr zs = 0) : zs.length ≤ 256 := (spErr_zero (arErr_zero h).1).1
/-- These are the marks of the objects 'on'. -/
structure OnMarks (zs ms on : List Int) : Prop where
  form : marksE ms (zs.length : Nat) = 0
  bits : ∀ k, k < zs.length → bit ms k = coversN zs (on.map Int.toNat) k
theorem covers_same {X Y : List Nat} (h : ∀ x, x ∈ X ↔ x ∈ Y) (k : Nat) : coversN zs X k = coversN zs Y k := by
  rw [Bool.eq_iff_iff, coversN_iff, coversN_iff]
  constructor
  · rintro ⟨x, hx, r⟩; exact ⟨x, (h x).1 hx, r⟩
  · rintro ⟨x, hx, r⟩; exact ⟨x, (h x).2 hx, r⟩
theorem toNat_mem {on : List Int} (hon : ∀ x ∈ on, x ∈ livesI zs) {s : Nat} : s ∈ on.map Int.toNat ↔ (s : Int) ∈ on := by
  rw [List.mem_map]
  constructor
  · rintro ⟨x, hx, rfl⟩
    have := lives_pos x (hon x hx)
    rw [Int.toNat_of_nonneg this]; exact hx
  · exact fun h => ⟨_, h, by simp⟩
theorem toNat_begins {on : List Int} (hon : ∀ x ∈ on, x ∈ livesI zs) : ∀ s ∈ on.map Int.toNat, s ∈ begins zs 0 := fun s hs => by
  obtain ⟨t, ht, _, e⟩ := lives_mem.1 (hon _ ((toNat_mem hon).1 hs))
  have : s = t := by omega
  rw [this]; exact ht
theorem live_room {x : Int} (h : x ∈ livesI zs) : x.toNat + longN zs x.toNat ≤ zs.length := by
  obtain ⟨s, hs, _, rfl⟩ := lives_mem.1 h
  rw [Int.toNat_natCast]
  have h3 := (begins_mem hs).2.2
  exact (stepOk_iff.1 h3).2
variable {ms on : List Int}
theorem OnMarks.has (h : OnMarks zs ms on) (hon : ∀ x ∈ on, x ∈ livesI zs) {x : Int} (hx : x ∈ livesI zs) : bit ms x.toNat = decide (x ∈ on) := by
  have h1 := lives_lt hx
  obtain ⟨s, hs, _, rfl⟩ := lives_mem.1 hx
  rw [Int.toNat_natCast, h.bits s (by omega), Bool.eq_iff_iff, covers_at (toNat_begins hon) hs, toNat_mem hon]
  simp
theorem OnMarks.step (h : OnMarks zs ms on) {x : Int} (hx : x ∈ livesI zs) : OnMarks zs (setL ms x.toNat (longN zs x.toNat) true) (on ++ [x]) := by
  have hr := live_room hx
  refine ⟨marksE_set h.form hr, fun k hk => ?_⟩
  obtain ⟨_, h2, h3, _⟩ := marksE_zero h.form
  rw [setL_bit _ _ _ _ (by omega), h.bits k hk, List.map_append, Bool.eq_iff_iff]
  by_cases hc : x.toNat ≤ k ∧ k < x.toNat + longN zs x.toNat
  · rw [if_pos hc]
    simp only [true_iff]
    exact coversN_iff.2 ⟨x.toNat, by simp, hc⟩
  · rw [if_neg hc, coversN_iff, coversN_iff]
    constructor
    · rintro ⟨y, hy, r⟩; exact ⟨y, List.mem_append_left _ hy, r⟩
    · rintro ⟨y, hy, r⟩
      rcases List.mem_append.1 hy with hy | hy
      · exact ⟨y, hy, r⟩
      · simp at hy; subst hy; exact absurd r hc
theorem OnMarks.same {on' : List Int} (h : OnMarks zs ms on) (he : ∀ x, x ∈ on ↔ x ∈ on') : OnMarks zs ms on' :=
  ⟨h.form, fun k hk => (h.bits k hk).trans (covers_same (fun s => by simp only [List.mem_map, he]) k)⟩
/-- No marks. -/
theorem OnMarks.none (h : zs.length ≤ 256) : OnMarks zs (List.replicate ((zs.length + 63) / 64) 0) [] := by
  have hb : ∀ k, bit (List.replicate ((zs.length + 63) / 64) 0) k = false := fun k => by unfold bit; rw [nth_replicate]; simp
  refine ⟨marksE_ok (by omega) (by simp) (stray_false.2 fun k _ _ => hb k), fun k hk => ?_⟩
  rw [hb k]; rfl
end
end Go.Proofs.Ytjefbekdjgmmbaa
