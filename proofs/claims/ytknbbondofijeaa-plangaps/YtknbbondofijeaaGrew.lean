/-
  What an append does to the rest of memory ('Grew': all but the slice's own row is as it was; the new row is the old one, or new). Over no program.
-/
import Derived.Test.YtknbbondofijeaaStepRun
import Derived.Test.YtknbbondofijeaaCutG
namespace Go.Proofs.Ytknbbondofijeaa
open Go.RowKit

structure Grew (w : World) (v : Value) (w' : World) (v' : Value) : Prop where
  os : w'.os = w.os
  tape : w'.tape = w.tape
  output : w'.output = w.output
  size : w.heap.size ≤ w'.heap.size
  block : ∀ i, i < w.heap.size → v.ownBlock ≠ some i → w'.heap[i]? = w.heap[i]?
  loc : v'.ownBlock = v.ownBlock ∨ ∀ b, v'.ownBlock = some b → w.heap.size ≤ b
section
variable {w w' w'' : World} {v v' v'' : Value}
theorem Grew.refl (w : World) (v : Value) : Grew w v w v := ⟨rfl, rfl, rfl, Nat.le_refl _, fun _ _ _ => rfl, .inl rfl⟩
theorem Grew.of_below (h : Below w.heap.size w w') (v : Value) : Grew w v w' v := ⟨h.os, h.tape, h.output, h.size, fun i hi _ => h.block i hi, .inl rfl⟩
theorem Grew.keepNe (h : Grew w v w' v') {i : Nat} (hi : i < w.heap.size) (hne : v.ownBlock ≠ some i) : v'.ownBlock ≠ some i := by
  rcases h.loc with h1 | h1
  · rw [h1]; exact hne
  · intro e
    have := h1 i e
    omega
theorem Grew.trans (h : Grew w v w' v') (h' : Grew w' v' w'' v'') : Grew w v w'' v'' :=
  ⟨h'.os.trans h.os, h'.tape.trans h.tape, h'.output.trans h.output, Nat.le_trans h.size h'.size, fun i hi hne => (h'.block i (Nat.lt_of_lt_of_le hi h.size) (h.keepNe hi hne)).trans (h.block i hi hne), by
    rcases h'.loc with h1 | h1
    · rcases h.loc with h2 | h2
      · exact .inl (h1.trans h2)
      · exact .inr fun b hb => h2 b (h1 ▸ hb)
    · exact .inr fun b hb => Nat.le_trans h.size (h1 b hb)⟩
theorem Grew.below (h : Grew w v w' v') {B : Nat} (hB : B ≤ w.heap.size) (hv : ∀ b, v.ownBlock = some b → B ≤ b) : Below B w w' :=
  ⟨h.os, h.tape, h.output, h.size, fun i hi => h.block i (by omega) (fun e => by have := hv i e; omega)⟩
theorem Off.grew {A : Option Addr} {n B : Nat} (h : Grew w v w' v') (ho : Off v.ownBlock A n) (hB : ∀ b off, 0 < n → A = some ⟨b, off, none⟩ → b < B) (hw : B ≤ w.heap.size) : Off v'.ownBlock A n := fun b off hn hA e =>
  h.keepNe (Nat.lt_of_lt_of_le (hB b off hn hA) hw) (ho b off hn hA) e
theorem Arr.lt {k : IntKind} {B n : Nat} {A : Option Addr} {zs : List Int} (h : Arr k w B A n zs) : ∀ b off, 0 < n → A = some ⟨b, off, none⟩ → b < B := fun b off hn hA => by
  obtain ⟨b', off', e, hb, _⟩ := h.2.2 hn
  rw [hA] at e
  injection e with e
  injection e with e1
  omega
theorem Arr.grew {k : IntKind} {B n : Nat} {A : Option Addr} {zs : List Int} (h : Arr k w B A n zs) (hg : Grew w v w' v') (ho : Off v.ownBlock A n) (hB : B ≤ w.heap.size) : Arr k w' B A n zs ∧ Off v'.ownBlock A n :=
  ⟨h.keepOff ho fun i hi hne => hg.block i (by omega) hne, ho.grew hg h.lt hB⟩
theorem ArrG.lt {α : Type} [Inhabited α] {enc : α → List Value} {sz B n : Nat} {A : Option Addr} {l : List α} (h : ArrG enc sz w B A n l) : ∀ b off, 0 < n → A = some ⟨b, off, none⟩ → b < B := fun b off hn hA => by
  obtain ⟨b', off', e, hb, _⟩ := h.2 hn
  rw [hA] at e
  injection e with e
  injection e with e1
  omega
theorem ArrG.grew {α : Type} [Inhabited α] {enc : α → List Value} {sz B n : Nat} {A : Option Addr} {l : List α} (h : ArrG enc sz w B A n l) (hg : Grew w v w' v') (ho : Off v.ownBlock A n) (hB : B ≤ w.heap.size) : ArrG enc sz w' B A n l ∧ Off v'.ownBlock A n := by
  refine ⟨⟨h.1, fun hn => ?_⟩, ho.grew hg h.lt hB⟩
  obtain ⟨b, off, e, hb, hc⟩ := h.2 hn
  refine ⟨b, off, e, hb, fun j hj i hi => ?_⟩
  have := hg.block b (by omega) (ho b off hn e)
  rw [← hc j hj i hi]
  simp [World.cell?, this]
theorem ObV.grew {lo hi : Nat} {r : Raw} {o : Ob} (h : ObV w lo hi r o) (hg : Grew w v w' v') (h1 : Off v.ownBlock r.ra r.rn) (h2 : Off v.ownBlock r.ba r.bn) (hB : hi ≤ w.heap.size) : ObV w' lo hi r o ∧ Off v'.ownBlock r.ra r.rn ∧ Off v'.ownBlock r.ba r.bn :=
  have a := h.refs.grew hg h1 hB
  have b := h.body.grew hg h2 hB
  ⟨⟨h.tag, h.free, h.rcap, h.bcap, a.1, h.rhigh, b.1, h.bhigh⟩, a.2, b.2⟩
theorem MapF.grew {P : Program} {q qe : IntKind} {k e : TypeId} {b n : Nat} {f : Int → Option Int} (h : MapF P q qe k e w b n f) (hg : Grew w v w' v') (ho : v.ownBlock ≠ some b) : MapF P q qe k e w' b n f ∧ v'.ownBlock ≠ some b :=
  ⟨h.keep (hg.block b h.lt ho), hg.keepNe h.lt ho⟩
theorem Box.grew {g : Nat} {t : TypeId} {cs : Array Value} (h : Box w g t cs) (hg : Grew w v w' v') (ho : v.ownBlock ≠ some g) : Box w' g t cs ∧ v'.ownBlock ≠ some g :=
  ⟨(hg.block g h.lt ho).trans h, hg.keepNe h.lt ho⟩
end
section
variable {k : IntKind} {e : TypeId} {w w' : World} {base : Nat} {v : Value} {xs : List Int}
theorem Own.rowLt (h : Own k e w base v xs) : ∀ g, v.ownBlock = some g → g < w.heap.size := by
  intro b hb
  rcases h.1.2 with ⟨rfl, _⟩ | ⟨g, cap, cur, rfl, hgb, hh, _⟩
  · simp [Value.ownBlock] at hb
  · simp [Value.ownBlock] at hb
    subst hb
    rcases Nat.lt_or_ge g w.heap.size with h | h
    · exact h
    · rw [Array.getElem?_eq_none h] at hh; cases hh
theorem Own.row (h : Own k e w base v xs) : ∀ g, v.ownBlock = some g → base ≤ g := by
  intro b hb
  rcases h.1.2 with ⟨rfl, _⟩ | ⟨g, cap, cur, rfl, hgb, hh, _⟩
  · simp [Value.ownBlock] at hb
  · simp [Value.ownBlock] at hb
    omega
/-- 'append(v, x)'. -/
theorem Own.pushG {P : Program} {t ty : TypeId} (h : Own k e w base v xs) (ht : P.underlying t = some (.slice e)) {bytes : Nat} (hinfo : (P.info? e).map (fun i => (i.zero, i.size, i.bytes)) = some (some (.int k 0), 1, bytes))
    (hb8 : bytes ≤ 8) {x : Int} (hx : (Lit.int k x).wf = true) (hn : xs.length + 1 ≤ 1073741824) (hbase : base ≤ w.heap.size) :
    ∃ v' w', Sem.run P (Builtin.append_ #[t, t] ty #[v, .slice (some ⟨w.heap.size, 0, none⟩) 1 1]) (w.alloc (.cells #[.int k x] e)) = .ok v' w' ∧ Own k e w' base v' (xs ++ [x]) ∧ Grew w v w' v' := by
  obtain ⟨i, hi, hz, hs, hby⟩ := info_parts hinfo
  have hcell : ∀ j u, ([.int k x] : List Value)[j]? = some u → (w.alloc (.cells #[.int k x] e)).cell? ((⟨w.heap.size, 0, none⟩ : Addr).add j) = some u := by
    intro j u hj
    match j, hj with
    | 0, hj => simp at hj; subst hj; simp [Addr.add]
  obtain ⟨v', w', hrun, hown, hg, _, hloc⟩ := run_append_own_at (P := P) (w.alloc (.cells #[.int k x] e)) base t ty e i (.int k 0) 1 bytes ht hi hz hs hby rfl (by omega) v xs.length (xs.map (Value.int k)) (h.1.alloc _)
    ⟨w.heap.size, 0, none⟩ 1 1 [.int k x] rfl hcell (fun u hu => by rw [List.mem_singleton.1 hu]; rfl) (by unfold maxLen; omega) (by
      calc (xs.length + 1) * bytes ≤ (xs.length + 1) * 8 := Nat.mul_le_mul_left _ hb8
        _ ≤ 140737488355328 := by omega) (by simp; omega)
  have hsz := hg.size
  simp at hsz
  refine ⟨v', w', hrun, ⟨by simpa using hown, ?_⟩, ⟨hg.os, hg.tape, hg.output, by omega, fun j hj hne => ?_, hloc.imp id fun hh b hb => ?_⟩⟩
  · intro y hy
    rcases List.mem_append.1 hy with h1 | h1
    · exact h.2 y h1
    · rw [List.mem_singleton.1 h1]; exact hx
  · rw [hg.block j (by simp; omega) (fun e => hne e.symm)]
    exact Below.heap_alloc w _ j hj
  · rw [hh] at hb
    injection hb with hb
    simp at hb
    omega
/-- 'append(v, src...)'. -/
theorem Own.catG {P : Program} {t ty : TypeId} (h : Own k e w base v xs) (ht : P.underlying t = some (.slice e)) {bytes : Nat} (hinfo : (P.info? e).map (fun i => (i.zero, i.size, i.bytes)) = some (some (.int k 0), 1, bytes))
    (hb8 : bytes ≤ 8) {A : Option Addr} {m c B : Nat} {ys : List Int} (ha : Arr k w B A m ys) (hn : xs.length + m ≤ 1073741824) (hbase : base ≤ w.heap.size) :
    ∃ v' w', Sem.run P (Builtin.append_ #[t, t] ty #[v, .slice A m c]) w = .ok v' w' ∧ Own k e w' base v' (xs ++ ys) ∧ Grew w v w' v' := by
  obtain ⟨i, hi, hz, hs, hby⟩ := info_parts hinfo
  have hwf : ∀ y ∈ xs ++ ys, (Lit.int k y).wf = true := by
    intro y hy
    rcases List.mem_append.1 hy with h1 | h1
    · exact h.2 y h1
    · exact ha.2.1 y h1
  rcases A with _ | ad
  · have hm : m = 0 := by
      rcases Nat.eq_zero_or_pos m with h0 | h0
      · exact h0
      · obtain ⟨_, _, h1, _⟩ := ha.2.2 h0
        cases h1
    subst hm
    have hy : ys = [] := List.eq_nil_of_length_eq_zero ha.1
    subst hy
    refine ⟨v, w, ?_, by simpa using h, Grew.refl _ _⟩
    rcases h.1.2 with ⟨rfl, h0⟩ | ⟨g, cap, cur, rfl, _, _, hnc, _⟩
    · simp [Builtin.append_, run_underlying ht, sizeOf, typeInfo, hi, Builtin.lenOf, Builtin.firstCells]
    · simp [Builtin.append_, run_underlying ht, sizeOf, typeInfo, hi, Builtin.lenOf, Builtin.firstCells, hnc, storeCells]
  · have hcell : ∀ j u, (ys.map (Value.int k))[j]? = some u → w.cell? (ad.add j) = some u := by
      intro j u hj
      have hjl : j < ys.length := by
        have := (List.getElem?_eq_some_iff.1 hj).1
        simpa using this
      obtain ⟨b, off, h1, _, hc⟩ := ha.2.2 (by have := ha.1; omega)
      injection h1 with h1
      subst h1
      have e1 : (⟨b, off, none⟩ : Addr).add j = ⟨b, off + j, none⟩ := by unfold Addr.add; split <;> simp_all
      rw [e1, hc j (by have := ha.1; omega), ← hj]
      simp [nth, List.getElem?_eq_getElem hjl]
    obtain ⟨v', w', hrun, hown, hg, _, hloc⟩ := run_append_own_at (P := P) w base t ty e i (.int k 0) 1 bytes ht hi hz hs hby rfl (by omega) v xs.length (xs.map (Value.int k)) h.1
      ad m c (ys.map (Value.int k)) (by simp [ha.1]) hcell (fun u hu => by obtain ⟨z, _, rfl⟩ := List.mem_map.1 hu; rfl) (by unfold maxLen; omega) (by
        calc (xs.length + m) * bytes ≤ (xs.length + m) * 8 := Nat.mul_le_mul_left _ hb8
          _ ≤ 140737488355328 := by omega) hbase
    refine ⟨v', w', hrun, ⟨?_, hwf⟩, ⟨hg.os, hg.tape, hg.output, hg.size, fun j hj hne => hg.block j hj (fun e => hne e.symm), hloc.imp id fun hh b hb => ?_⟩⟩
    · rw [List.map_append, List.length_append, ha.1]
      exact hown
    · rw [hh] at hb
      injection hb with hb
      omega
end
/-- 'append(v, src...)' of descriptions. -/
theorem OwnG.cat4 {P : Program} {t ty e : TypeId} {w : World} {base : Nat} {v : Value} {l l' : List Raw} (h : OwnG rawC 4 e w base v l) (ht : P.underlying t = some (.slice e)) {z : Value} {bytes : Nat}
    (hinfo : (P.info? e).map (fun i => (i.zero, i.size, i.bytes)) = some (some z, 4, bytes)) (hz : z.cells.size = 4) (hb : bytes ≤ 1000) {A : Option Addr} {m c B : Nat} (ha : ArrG rawC 4 w B A m l') (hn : l.length + m ≤ 1073741824) (hbase : base ≤ w.heap.size) :
    ∃ v' w', Sem.run P (Builtin.append_ #[t, t] ty #[v, .slice A m c]) w = .ok v' w' ∧ OwnG rawC 4 e w' base v' (l ++ l') ∧ Grew w v w' v' := by
  obtain ⟨i, hi, hz', hs', hby⟩ := info_parts hinfo
  rcases A with _ | ad
  · have hm : m = 0 := ha.none_len
    subst hm
    have hy : l' = [] := List.eq_nil_of_length_eq_zero ha.1
    subst hy
    refine ⟨v, w, ?_, by simpa using h, Grew.refl _ _⟩
    rcases h.2 with ⟨rfl, h0⟩ | ⟨g, cap, cur, rfl, _, _, hnc, _⟩
    · simp [Builtin.append_, run_underlying ht, sizeOf, typeInfo, hi, Builtin.lenOf, Builtin.firstCells]
    · simp [Builtin.append_, run_underlying ht, sizeOf, typeInfo, hi, Builtin.lenOf, Builtin.firstCells, hnc, storeCells]
  · have hl' := ha.1
    have hcell : ∀ j u, (l'.flatMap rawC)[j]? = some u → w.cell? (ad.add j) = some u := by
      intro j u hj
      have hjl : j < l'.length * 4 := by
        have := (List.getElem?_eq_some_iff.1 hj).1
        rwa [flat_length rawC_len] at this
      obtain ⟨b, off, h1, _, hc⟩ := ha.2 (by omega)
      injection h1 with h1
      subst h1
      have e1 : (⟨b, off, none⟩ : Addr).add j = ⟨b, off + j, none⟩ := by unfold Addr.add; split <;> simp_all
      have h2 := hc (j / 4) (by omega) (j % 4) (by omega)
      have h3 := flat_at (enc := rawC) (size := 4) rawC_len l' (j / 4) (j % 4) (by omega) (by omega)
      rw [show j / 4 * 4 + j % 4 = j by omega] at h3
      rw [show off + j / 4 * 4 + j % 4 = off + j by omega] at h2
      rw [e1, h2, ← h3, hj]
    obtain ⟨v', w', hrun, hown, hg, _, hloc⟩ := run_append_own_at (P := P) w base t ty e i z 4 bytes ht hi hz' hs' hby hz (by omega) v l.length (l.flatMap rawC) h
      ad m c (l'.flatMap rawC) (by rw [flat_length rawC_len, hl']) hcell (fun u hu => by
        obtain ⟨a, _, ha⟩ := List.mem_flatMap.1 hu
        exact rawC_one a u ha) (by unfold maxLen; omega) (by
        calc (l.length + m) * bytes ≤ (l.length + m) * 1000 := Nat.mul_le_mul_left _ hb
          _ ≤ 140737488355328 := by
            have : (l.length + m) * 1000 ≤ 100 * 1000 ∨ True := .inr trivial
            omega) hbase
    refine ⟨v', w', hrun, ?_, ⟨hg.os, hg.tape, hg.output, hg.size, fun j hj hne => hg.block j hj (fun e => hne e.symm), hloc.imp id fun hh b hb => ?_⟩⟩
    · unfold OwnG
      rw [List.flatMap_append, List.length_append, hl']
      exact hown
    · rw [hh] at hb
      injection hb with hb
      omega
end Go.Proofs.Ytknbbondofijeaa
