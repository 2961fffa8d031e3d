/-
  Slices of pins that the call made: copies into a row known whole; contracts of slices.Clone, slices.Insert (one element) and slices.Delete (one element) at []api.Pin.
-/
import Derived.Test.YtedndmhekjfpdaaPinF
import Derived.Test.YtedndmhekjfpdaaFullG
import Derived.Lib.AppendZerosOnto
import Derived.Lib.Overlaps
import Derived.Laws.CopyOwn
import Derived.StillTailTactics
namespace Go.Proofs.Ytedndmhekjfpdaa
open Go.RowKit

theorem pinI : (Try.prog.info? 57).map (fun i => (i.zero, i.size, i.bytes)) = some (some (.agg #[.int .i64 0, .int .i64 0]), 2, 16) := by kernel_rfl
theorem pinS : (Try.prog.info? 57).map (·.size) = some 2 := by kernel_rfl

/-- 'copy' of structs into a row known whole. -/
theorem run_copy_rowG {P : Program} (w : World) (dT sT ty elem : TypeId) (sz g o dLen dCap : Nat) (a : Addr) (sLen sCap : Nat) (cur : List Value) (t : TypeId) (cs : List Value)
    (hu : P.underlying dT = some (.slice elem)) (hs : (P.info? elem).map (·.size) = some sz) (hg : w.heap[g]? = some (.cells cur.toArray t (0, 0))) {n : Nat} (hm : Nat.min sLen dLen = n) (hn : cs.length = n * sz)
    (hsrc : ∀ j v, cs[j]? = some v → w.cell? (a.add j) = some v) (hfit : o + cs.length ≤ cur.length) (h1 : ∀ v ∈ cs, v.oneCell' = true) :
    Sem.run P (Builtin.copy_ #[dT, sT] ty #[.slice (some ⟨g, o, none⟩) dLen dCap, .slice (some a) sLen sCap]) w = .ok (.int .i64 n) (w.setRow g (splice cur o cs).toArray) := by
  have hl := run_loadCells_list (P := P) w a cs hsrc
  have hst := run_storeCells_at P g o t cs 0 cur.toArray w hg (by simpa using hfit) h1
  cases hq : P.info? elem with
  | none => simp [hq] at hs
  | some i =>
    have hi : i.size = sz := by simpa [hq] using hs
    rw [hn] at hl
    simp [Builtin.copy_, run_underlying hu, Builtin.lenOf, Builtin.firstCells, sizeOf, typeInfo, hq, hi, hm, hl, hst, splice, goInt]
/-- Cells stored one by one into a row known whole. -/
theorem setCells_row {w : World} {g o : Nat} {cur : List Value} {t : TypeId} {vs : List Value} (hg : w.heap[g]? = some (.cells cur.toArray t (0, 0))) (hfit : o + vs.length ≤ cur.length) (h1 : ∀ v ∈ vs, v.oneCell' = true) :
    w.setCells g o vs = w.setRow g (splice cur o vs).toArray := by
  have hst := run_storeCells_at Try.prog g o t vs 0 cur.toArray w hg (by simpa using hfit) h1
  have hs2 := run_storeCells_cells (P := Try.prog) g o vs 0 w (fun j hj => by
      rw [cell_of_row w g _ _ t (0, 0) hg]
      simp
      omega) (fun j hj => by simp [World.frozen?, hg]) h1
  rw [hst] at hs2
  injection hs2 with _ hs2
  rw [Nat.add_zero] at hs2
  rw [← hs2]
  simp [splice]
/-- 'clear' of structs in a row known whole. -/
theorem run_clear_rowG {P : Program} (w : World) (sT ty elem : TypeId) (g o n c : Nat) (cur : List Value) (t : TypeId) (z : Value) (cs : List Value) (hn : 0 < n)
    (hu : P.underlying sT = some (.slice elem)) (hz : ∀ w, (zeroValue elem).run P w = .ok z w) (hcs : (Builtin.zeroCells z.cells n).toList = cs) (hg : w.heap[g]? = some (.cells cur.toArray t (0, 0))) (hfit : o + cs.length ≤ cur.length) (h1 : ∀ v ∈ cs, v.oneCell' = true) :
    Sem.run P (Builtin.clear_ #[sT] ty #[.slice (some ⟨g, o, none⟩) n c]) w = .ok (.tuple #[]) (w.setRow g (splice cur o cs).toArray) := by
  have hst := run_storeCells_at P g o t cs 0 cur.toArray w hg (by simpa using hfit) h1
  obtain ⟨m, rfl⟩ : ∃ m, n = m + 1 := ⟨n - 1, by omega⟩
  simp [Builtin.clear_, run_underlying hu, hz, hcs, hst, splice]
/-- 'x[p:q]' of a slice of structs. -/
theorem run_midG {P : Program} {t e : TypeId} {sz : Nat} (ht : P.underlying t = some (.slice e)) (hs : (P.info? e).map (·.size) = some sz) (g off len cap p q : Nat) (l h : Int) (hl : l = p) (hh : h = q) (hp : p < q) (hc : q ≤ cap) :
    ∀ wx, Sem.run P (Instr.slice t (.slice (some ⟨g, off, none⟩) len cap) (some (.int .i64 l)) (some (.int .i64 h)) none) wx = .ok (.slice (some ⟨g, off + p * sz, none⟩) (q - p) (cap - p)) wx := by
  have he : P.elem t = e := by simp [Program.elem, ht]
  have ht' : P.underlying t = some (.slice (P.elem t)) := by rw [he]; exact ht
  intro wx
  rw [run_slice_lh wx t (some ⟨g, off, none⟩) len cap ht' .i64 .i64 l h (by omega) (by omega) (by omega)]
  cases hi : P.info? e with
  | none => simp [hi] at hs
  | some i =>
    have h1 : i.size = sz := by simpa [hi] using hs
    have e1 : l.toNat = p := by omega
    have e2 : h.toNat = q := by omega
    have e3 : ¬ cap = p := by omega
    simp [he, sizeOf, typeInfo, hi, h1, sliced, e1, e2, e3]
    unfold Addr.add; split <;> simp_all
/-- A row of its own that begins with the elements. -/
theorem OwnG.of_row {α : Type} {enc : α → List Value} {size : Nat} (hs : ∀ a, (enc a).length = size) {e : TypeId} {w : World} {base g n c : Nat} {cur : List Value} {l : List α} (hl : l.length = n) (hg : w.heap[g]? = some (.cells cur.toArray e (0, 0))) (hb : base ≤ g) (hn : n ≤ c) (hc : c ≤ maxLen) (hz : cur.length = c * size) (ht : cur.take (n * size) = l.flatMap enc) :
    OwnG enc size e w base (.slice (some ⟨g, 0, none⟩) n c) l := by
  refine ⟨flat_length hs l, .inr ⟨g, c, cur.toArray, by rw [hl], hb, hg, by rw [hl]; exact hn, hc, by simpa using hz, by rw [hl]; simpa using ht⟩⟩
/-- .. and back. -/
theorem OwnG.to_row {α : Type} {enc : α → List Value} {size : Nat} {e : TypeId} {w : World} {base : Nat} {v : Value} {l : List α} (h : OwnG enc size e w base v l) (h0 : 0 < l.length) :
    ∃ g c cur, v = .slice (some ⟨g, 0, none⟩) l.length c ∧ base ≤ g ∧ w.heap[g]? = some (.cells (List.toArray cur) e (0, 0)) ∧ l.length ≤ c ∧ c ≤ maxLen ∧ cur.length = c * size ∧ cur.take (l.length * size) = l.flatMap enc := by
  obtain ⟨_, h2⟩ := h
  rcases h2 with ⟨_, h1⟩ | ⟨g, cap, cur, rfl, hg, hh, hc, hcm, hsz, ht⟩
  · omega
  · exact ⟨g, cap, cur.toList, rfl, hg, hh, hc, hcm, by simpa using hsz, ht⟩

/-- What slices.Clone answers. -/
def ClonedP (l : List (Int × Int)) (w : World) (e : Ending) (w' : World) : Prop := ∃ A c, e = .returned (.slice A l.length c) ∧ FullG runC 2 57 w' w.heap.size A l.length c l ∧ Below w.heap.size w w'

set_option maxHeartbeats 400000 in
theorem cloneP_any (A : Option Addr) (n c : Nat) (l : List (Int × Int)) (w : World) (hn : n * 16 ≤ 281474976710656) (ha : ArrG runC 2 w w.heap.size A n l) :
    Calls Try.prog 26 #[.slice A n c] w (ClonedP l w) := by
  have hq := fun wx => Lib.run_eql_slice_nil (P := Try.prog) wx 54 57 A n c 0 0 Try.underlying54
  rcases A with _ | x
  · have h0 : n = 0 := ha.none_len
    subst h0
    have h1 : l = [] := List.eq_nil_of_length_eq_zero ha.1
    subst h1
    clear ha
    go_enter Try.func26, Try.ntmps26
    go_wp2
    go_ret
    exact ⟨none, 0, rfl, FullG.nil, Below.refl _ _⟩
  · obtain ⟨A', c', w', hrun, hF, hB⟩ := run_clone_full runC_len (by omega) (P := Try.prog) (t := 54) (ty := 54) (c := c) Try.underlying54 pinI (by omega) (x0 := (0, 0)) rfl ha hn
    have hl := ha.1
    subst hl
    have HP := Lib.hid hrun
    have HF := Lib.hid hF
    have HB := Lib.hid hB
    clear hrun hF hB ha
    go_enter Try.func26, Try.ntmps26
    go_wp2_with (at_builtin; refine wpList_append_run rfl (.tmp 5) (.tmp 6) 54 rfl rfl rfl HP.out ?_)
    go_ret
    exact ⟨A', c', rfl, HF.out, HB.out⟩
end Go.Proofs.Ytedndmhekjfpdaa
