/-
  'x[p:p+q]' of a slice of structs; a slice of one description. Over no program.
-/
import Derived.Test.YtknbbondofijeaaObjOwn
namespace Go.Proofs.Ytknbbondofijeaa
open Go.RowKit

theorem run_cutG {P : Program} {t e : TypeId} {sz : Nat} (ht : P.underlying t = some (.slice e)) (hs : (P.info? e).map (·.size) = some sz) (A : Option Addr) (len cap : Nat) (l h : Int) (p q : Nat) (hp : l = p) (hq : h = (p : Int) + q) (hc : p + q ≤ cap) :
    ∃ D, (∀ wx, Sem.run P (Instr.slice t (.slice A len cap) (some (.int .i64 l)) (some (.int .i64 h)) none) wx = .ok (.slice D q (cap - p)) wx) ∧ ∀ b off, A = some ⟨b, off, none⟩ → 0 < q → D = some ⟨b, off + p * sz, none⟩ := by
  have he : P.elem t = e := by simp [Program.elem, ht]
  have ht' : P.underlying t = some (.slice (P.elem t)) := by rw [he]; exact ht
  refine ⟨if cap = p then A else A.map (·.add (p * sz)), fun wx => ?_, fun b off hA hq0 => ?_⟩
  · rw [run_slice_lh wx t A len cap ht' .i64 .i64 l h (by omega) (by omega) (by omega)]
    cases hi : P.info? e with
    | none => simp [hi] at hs
    | some i =>
      have h1 : i.size = sz := by simpa [hi] using hs
      have e1 : l.toNat = p := by omega
      have e2 : h.toNat = p + q := by omega
      simp [he, sizeOf, typeInfo, hi, h1, sliced, e1, e2]
  · subst hA
    rw [if_neg (by omega)]
    simp only [Option.map_some]
    congr 1
    unfold Addr.add
    split <;> simp_all
theorem ArrG.cut {α : Type} [Inhabited α] {enc : α → List Value} {size : Nat} {w : World} {B n : Nat} {A D : Option Addr} {l : List α} (h : ArrG enc size w B A n l) {p q : Nat} (hpq : p + q ≤ n) (hD : ∀ b off, A = some ⟨b, off, none⟩ → 0 < q → D = some ⟨b, off + p * size, none⟩) : ArrG enc size w B D q ((l.drop p).take q) := by
  obtain ⟨hl, hc⟩ := h
  refine ⟨by simp; omega, fun hq => ?_⟩
  obtain ⟨b, off, rfl, hb, hcell⟩ := hc (by omega)
  refine ⟨b, off + p * size, hD b off rfl hq, hb, fun j hj i hi => ?_⟩
  have := hcell (p + j) (by omega) i hi
  rw [Nat.add_mul] at this
  rw [show off + p * size + j * size + i = off + (p * size + j * size) + i by omega, this]
  congr 2
  rw [nthG_get _ _ (by omega), nthG_get _ _ (by simp; omega)]
  simp
theorem one_raw (w : World) (t : TypeId) (r : Raw) : ArrG rawC 4 (w.alloc (.cells #[.int .i64 r.t, .slice r.ra r.rn r.rc, .slice r.ba r.bn r.bc, .bool r.f] t)) (w.heap.size + 1) (some ⟨w.heap.size, 0, none⟩) 1 [r] := by
  refine ⟨rfl, fun _ => ⟨w.heap.size, 0, rfl, by omega, fun j hj i hi => ?_⟩⟩
  have : j = 0 := by omega
  subst this
  have hb := Box.new w t #[.int .i64 r.t, .slice r.ra r.rn r.rc, .slice r.ba r.bn r.bc, .bool r.f]
  rw [Nat.zero_mul, Nat.zero_add, hb.cell i]
  have h1 : nthG [r] 0 = r := rfl
  rw [h1]
  have : i = 0 ∨ i = 1 ∨ i = 2 ∨ i = 3 := by omega
  rcases this with rfl | rfl | rfl | rfl <;> rfl
theorem zero_obv (w : World) (lo hi : Nat) : ObV w lo hi zeroRaw (0, [], [], false) := ⟨rfl, rfl, Nat.le_refl _, Nat.le_refl _, Arr.zero, High.zero, Arr.zero, High.zero⟩
end Go.Proofs.Ytknbbondofijeaa
