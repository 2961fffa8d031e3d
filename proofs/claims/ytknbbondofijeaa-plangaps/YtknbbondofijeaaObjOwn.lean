/-
  A slice of descriptions that the call makes: made, written, read. Over no program.
-/
import Derived.Test.YtknbbondofijeaaObjM
import Derived.Laws.OwnMore
namespace Go.Proofs.Ytknbbondofijeaa
open Go.RowKit

def zeroRaw : Raw := ⟨0, none, 0, 0, none, 0, 0, false⟩
theorem made_raws (n : Nat) : (madeCells #[.int .i64 0, .slice none 0 0, .slice none 0 0, .bool false] (n * 4)).toList = (List.replicate n zeroRaw).flatMap rawC := by
  apply List.ext_getElem?
  intro i
  by_cases hi : i < n * 4
  · have h1 := flat_at (enc := rawC) (size := 4) rawC_len (List.replicate n zeroRaw) (i / 4) (i % 4) (by simp; omega) (by omega)
    rw [show i / 4 * 4 + i % 4 = i by omega] at h1
    rw [h1]
    have h2 : nthG (List.replicate n zeroRaw) (i / 4) = zeroRaw := by rw [nthG_get _ _ (by simp; omega)]; simp
    rw [h2]
    have h3 : i % 4 < 4 := by omega
    simp only [madeCells, Array.toList_map, Array.toList_range, List.getElem?_map, List.getElem?_range hi, Option.map_some]
    have : i % 4 = 0 ∨ i % 4 = 1 ∨ i % 4 = 2 ∨ i % 4 = 3 := by omega
    rcases this with h | h | h | h <;> (simp [h, rawC, zeroRaw])
  · rw [List.getElem?_eq_none (by simp [madeCells]; omega), List.getElem?_eq_none (by rw [flat_length rawC_len]; simp; omega)]

section
variable {e : TypeId} {w : World} {base : Nat} {v : Value} {l : List Raw}
theorem OwnG.setOne {g n cap : Nat} (h : OwnG rawC 4 e w base (.slice (some ⟨g, 0, none⟩) n cap) l) (j i : Nat) (a : Raw) (u : Value) (hj : j < l.length) (hi : i < 4) (he : rawC a = (rawC (nthG l j)).set i u) :
    OwnG rawC 4 e (w.setCell ⟨g, j * 4 + i, none⟩ u) base (.slice (some ⟨g, 0, none⟩) n cap) (l.set j a) := by
  obtain ⟨g', cap', hv, _, _, _, _, hs⟩ := h.form rawC_len (by omega)
  injection hv with e1 e2 e3
  injection e1 with e1
  injection e1 with e1
  subst e1
  exact hs j i a u hj hi he
theorem OwnG.put4 {g n cap : Nat} (h : OwnG rawC 4 e w base (.slice (some ⟨g, 0, none⟩) n cap) l) (j : Nat) (r : Raw) (hj : j < l.length) :
    OwnG rawC 4 e ((((w.setCell ⟨g, j * 4, none⟩ (.int .i64 r.t)).setCell ⟨g, j * 4 + 1, none⟩ (.slice r.ra r.rn r.rc)).setCell ⟨g, j * 4 + 2, none⟩ (.slice r.ba r.bn r.bc)).setCell ⟨g, j * 4 + 3, none⟩ (.bool r.f)) base (.slice (some ⟨g, 0, none⟩) n cap) (l.set j r) := by
  have hn : ∀ (l : List Raw) (a : Raw), j < l.length → nthG (l.set j a) j = a := fun l a hj => by rw [nthG_get _ _ (by simpa using hj)]; simp
  obtain ⟨q, hq⟩ : ∃ q, nthG l j = q := ⟨_, rfl⟩
  have s0 := h.setOne j 0 { q with t := r.t } (.int .i64 r.t) hj (by omega) (by rw [hq]; rfl)
  have s1 := s0.setOne j 1 { q with t := r.t, ra := r.ra, rn := r.rn, rc := r.rc } (.slice r.ra r.rn r.rc) (by simpa using hj) (by omega) (by rw [hn _ _ hj]; rfl)
  rw [List.set_set] at s1
  have s2 := s1.setOne j 2 { q with t := r.t, ra := r.ra, rn := r.rn, rc := r.rc, ba := r.ba, bn := r.bn, bc := r.bc } (.slice r.ba r.bn r.bc) (by simpa using hj) (by omega) (by rw [hn _ _ hj]; rfl)
  rw [List.set_set] at s2
  have s3 := s2.setOne j 3 r (.bool r.f) (by simpa using hj) (by omega) (by rw [hn _ _ hj]; rfl)
  rw [List.set_set] at s3
  exact s3
/-- The cells of description 'j' of a slice that was made. -/
theorem OwnG.cells4 {g n cap : Nat} (h : OwnG rawC 4 e w base (.slice (some ⟨g, 0, none⟩) n cap) l) {j : Nat} (hj : j < l.length) :
    (w.cell? ⟨g, j * 4, none⟩ = some (.int .i64 (nthG l j).t) ∧ w.cell? ⟨g, j * 4 + 1, none⟩ = some (.slice (nthG l j).ra (nthG l j).rn (nthG l j).rc) ∧ w.cell? ⟨g, j * 4 + 2, none⟩ = some (.slice (nthG l j).ba (nthG l j).bn (nthG l j).bc) ∧ w.cell? ⟨g, j * 4 + 3, none⟩ = some (.bool (nthG l j).f)) ∧
      ∀ i, i < 4 → w.frozen? ⟨g, j * 4 + i, none⟩ = false := by
  obtain ⟨g', cap', hv, _, _, _, hc, _⟩ := h.form rawC_len (by omega)
  injection hv with e1 e2 e3
  injection e1 with e1
  injection e1 with e1
  subst e1
  exact ⟨⟨(hc j hj 0 (by omega)).1, (hc j hj 1 (by omega)).1, (hc j hj 2 (by omega)).1, (hc j hj 3 (by omega)).1⟩, fun i hi => (hc j hj i hi).2⟩
/-- 'make([]api.Object, n)'. -/
theorem run_make_raws {P : Program} {t : TypeId} {bytes : Nat} (ht : P.underlying t = some (.slice e)) (hinfo : (P.info? e).map (fun i => (i.zero, i.size, i.bytes)) = some (some (.agg #[.int .i64 0, .slice none 0 0, .slice none 0 0, .bool false]), 4, bytes)) (hb : bytes ≤ 1000) (n : Nat) (hn : n ≤ 1000) (w : World) :
    ∃ w', Sem.run P (Instr.makeSlice t (.int .i64 (n : Int)) (.int .i64 (n : Int))) w = .ok (.slice (some ⟨w.heap.size, 0, none⟩) n n) w' ∧ OwnG rawC 4 e w' w.heap.size (.slice (some ⟨w.heap.size, 0, none⟩) n n) (List.replicate n zeroRaw) ∧ Below w.heap.size w w' ∧ w.heap.size < w'.heap.size := by
  obtain ⟨i, hi, hz, hs, hby⟩ := info_parts hinfo
  obtain ⟨w', hr, ho, hg⟩ := run_make_full (P := P) w w.heap.size t e i _ 4 ht hi hz hs .i64 .i64 n (by
    rw [hby]
    calc bytes * n ≤ 1000 * 1000 := Nat.mul_le_mul hb hn
      _ ≤ 281474976710656 := by omega) (by unfold maxLen; omega) (Nat.le_refl _)
  have ho' : OwnG rawC 4 e w' w.heap.size (.slice (some ⟨w.heap.size, 0, none⟩) n n) (List.replicate n zeroRaw) := by
    unfold OwnG
    rw [← made_raws, List.length_replicate]
    exact ho
  refine ⟨w', hr, ho', ⟨hg.os, hg.tape, hg.output, hg.size, fun k hk => hg.block k hk (by simp)⟩, ?_⟩
  rcases ho'.2 with ⟨h1, _⟩ | ⟨g, cap, cur, h1, _, hh, _⟩
  · cases h1
  · injection h1 with h1
    injection h1 with h1
    injection h1 with h1
    subst h1
    exact (Array.getElem?_eq_some_iff.1 hh).1
end
theorem ArrG.raw {w : World} {B n : Nat} {A : Option Addr} {l : List Raw} (h : ArrG rawC 4 w B A n l) {j : Nat} (hj : j < n) :
    ∃ b off, A = some ⟨b, off, none⟩ ∧ b < B ∧ w.cell? ⟨b, off + j * 4, none⟩ = some (.int .i64 (nthG l j).t) ∧ w.cell? ⟨b, off + j * 4 + 1, none⟩ = some (.slice (nthG l j).ra (nthG l j).rn (nthG l j).rc) ∧ w.cell? ⟨b, off + j * 4 + 2, none⟩ = some (.slice (nthG l j).ba (nthG l j).bn (nthG l j).bc) ∧
      w.cell? ⟨b, off + j * 4 + 3, none⟩ = some (.bool (nthG l j).f) := by
  obtain ⟨b, off, e, hb, hc⟩ := h.at_ hj
  exact ⟨b, off, e, hb, hc 0 (by omega), hc 1 (by omega), hc 2 (by omega), hc 3 (by omega)⟩
theorem below_set4 {B : Nat} {a w : World} (h : Below B a w) {g : Nat} (hg : B ≤ g) (o0 o1 o2 o3 : Nat) (d0 d1 d2 d3 : Value) :
    Below B a ((((w.setCell ⟨g, o0, none⟩ d0).setCell ⟨g, o1, none⟩ d1).setCell ⟨g, o2, none⟩ d2).setCell ⟨g, o3, none⟩ d3) := below_set (below_set (below_set (below_set h hg _ _) hg _ _) hg _ _) hg _ _
theorem ObV.setOther4 {w : World} {lo hi : Nat} {r : Raw} {o : Ob} (h : ObV w lo hi r o) {g : Nat} (hg : g < lo) (o0 o1 o2 o3 : Nat) (d0 d1 d2 d3 : Value) :
    ObV ((((w.setCell ⟨g, o0, none⟩ d0).setCell ⟨g, o1, none⟩ d1).setCell ⟨g, o2, none⟩ d2).setCell ⟨g, o3, none⟩ d3) lo hi r o := (((h.setOther hg _ _).setOther hg _ _).setOther hg _ _).setOther hg _ _
end Go.Proofs.Ytknbbondofijeaa
