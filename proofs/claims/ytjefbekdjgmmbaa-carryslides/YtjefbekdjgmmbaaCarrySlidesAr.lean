/-
  Parts of the proof of CarrySlides: IntCat.
-/
import Derived.ArgAppend
import Derived.Lib.AppendZeros
import Derived.Deep.Upon
import Derived.Test.YtjefbekdjgmmbaaCarrySlidesAj
namespace Go.Proofs.Ytjefbekdjgmmbaa
open Go.RowKit
/-- An append of other operands than two slices of one type, whose run is known. -/
theorem wpList_append_runI {P : Program} {w : World} {ops : Array Oper} {rest : List Oper} {o : Oper} {a : Act} {Q : Exit → Act → World → Prop} (hgd : o.guard = none) (s x : Operand) (t t2 : TypeId)
    (ho : o.op = .call { callee := .builtin .append, args := #[s, x], argTypes := #[t, t2] }) {v src v' : Value} {w' : World} (hs : a.eval s = v) (hx : a.eval x = src)
    (hrun : Sem.run P (Builtin.append_ #[t, t2] o.type #[v, src]) w = .ok v' w') (h : wpList P ops Q rest (a.put o.dst v') w') : wpList P ops Q (o :: rest) a w := by
  refine wpList_plain hgd fun K hK => ?_
  unfold Oper.wp execOp
  simp only [ho, resolve, invoke, builtin, Sem.run_bind, Sem.run_pure, Result.andThen_ok, List.map_toArray, List.map_cons, List.map_nil, hs, hx, hrun]
  exact hK _ _ h
theorem setCells_rowI {P : Program} {w : World} {g o : Nat} {cur : List Value} {t : TypeId} {vs : List Value} (hg : w.heap[g]? = some (.cells cur.toArray t (0, 0))) (hfit : o + vs.length ≤ cur.length) (h1 : ∀ v ∈ vs, v.oneCell' = true) :
    w.setCells g o vs = w.setRow g (splice cur o vs).toArray := by
  have hst := run_storeCells_at P g o t vs 0 cur.toArray w hg (by simpa using hfit) h1
  have hs2 := run_storeCells_cells (P := P) g o vs 0 w (fun j hj => by
      rw [cell_of_row w g _ _ t (0, 0) hg]
      simp
      omega) (fun j hj => by simp [World.frozen?, hg]) h1
  rw [hst] at hs2
  injection hs2 with _ hs2
  rw [Nat.add_zero] at hs2
  rw [← hs2]
  simp [splice]
/-- 'append(v, src...)' where there is room. -/
theorem Own.catC {P : Program} {t ty e : TypeId} {k : IntKind} {w : World} {base : Nat} {A S : Option Addr} {n cp m c B : Nat} {xs ys : List Int} (h : Own k e w base (.slice A n cp) xs) (ht : P.underlying t = some (.slice e)) {bytes : Nat} (hinfo : (P.info? e).map (fun i => (i.zero, i.size, i.bytes)) = some (some (.int k 0), 1, bytes))
    (ha : Arr k w B S m ys) (hr : n + m ≤ cp) :
    ∃ w', Sem.run P (Builtin.append_ #[t, t] ty #[.slice A n cp, .slice S m c]) w = .ok (.slice A (n + m) cp) w' ∧ Own k e w' base (.slice A (n + m) cp) (xs ++ ys) ∧ Below base w w' := by
  obtain ⟨i, hi, hz, hs, hby⟩ := info_parts hinfo
  have hwf : ∀ y ∈ xs ++ ys, (Lit.int k y).wf = true := by
    intro y hy
    rcases List.mem_append.1 hy with h1 | h1
    · exact h.2 y h1
    · exact ha.2.1 y h1
  rcases Nat.eq_zero_or_pos m with h0 | h0
  · subst h0
    have hy : ys = [] := List.eq_nil_of_length_eq_zero ha.1
    subst hy
    refine ⟨w, ?_, by simpa using h, Below.refl _ _⟩
    rcases S with _ | ad
    · rcases h.1.2 with ⟨hv, h0⟩ | ⟨g, cap, cur, hv, _, _, hnc, _⟩
      · injection hv with e1 e2 e3
        subst e1 e2 e3
        simp [Builtin.append_, run_underlying ht, sizeOf, typeInfo, hi, Builtin.lenOf, Builtin.firstCells]
      · injection hv with e1 e2 e3
        subst e1
        simp [Builtin.append_, run_underlying ht, sizeOf, typeInfo, hi, Builtin.lenOf, Builtin.firstCells, storeCells]
        omega
    · have hr2 := run_append_nothing (P := P) w t t ty e i ht hi A n cp (by omega) (.slice (some ad) 0 c) (Src.ofSlice _ ht ad 0 c [] (by simp) (by intro j v hj; simp at hj) (by intro u hu; cases hu))
      exact hr2
  · obtain ⟨b, off, rfl, _, hc⟩ := ha.2.2 h0
    rcases h.1.2 with ⟨hv, _⟩ | ⟨g, cap, cur, hv, hgb, hh, hnc, hcm, hsz, htk⟩
    · injection hv with e1 e2 e3
      omega
    · injection hv with e1 e2 e3
      subst e1 e2 e3
      have hnl : (ys.map (Value.int k)).length = m * i.size := by rw [hs, List.length_map, ha.1, Nat.mul_one]
      have hcur : w.heap[g]? = some (.cells cur.toList.toArray e (0, 0)) := by simpa using hh
      have hlen : cur.toList.length = cp := by simpa using hsz
      have hnews : ∀ j u, (ys.map (Value.int k))[j]? = some u → w.cell? ((⟨b, off, none⟩ : Addr).add j) = some u := by
        intro j u hj
        have hjl : j < ys.length := by
          have := (List.getElem?_eq_some_iff.1 hj).1
          simpa using this
        have e1 : (⟨b, off, none⟩ : Addr).add j = ⟨b, off + j, none⟩ := by unfold Addr.add; split <;> simp_all
        rw [e1, hc j (by have := ha.1; omega), ← hj]
        simp [nth, List.getElem?_eq_getElem hjl]
      have hone : ∀ u ∈ ys.map (Value.int k), u.oneCell' = true := fun u hu => by obtain ⟨z, _, rfl⟩ := List.mem_map.1 hu; rfl
      have hml : (ys.map (Value.int k)).length = m := by rw [List.length_map, ha.1]
      have hfit : 0 + xs.length * 1 + (ys.map (Value.int k)).length ≤ cur.toList.length := by rw [hml, hlen]; omega
      have hrn := run_append_room_cells (P := P) w t ty e i ht hi g 0 xs.length cp ⟨b, off, none⟩ m c (ys.map (Value.int k)) hnl hnews hone hr
        (fun j hj => by
          rw [cell_of_row w g _ _ e (0, 0) hcur, List.getElem?_toArray, hs, List.getElem?_eq_getElem (by omega)]; rfl) (fun j hj => by simp [World.frozen?, hh])
      rw [hs, setCells_rowI (P := P) hcur hfit hone] at hrn
      refine ⟨_, hrn, ⟨⟨by simp, .inr ⟨g, cp, (splice cur.toList (0 + xs.length * 1) (ys.map (Value.int k))).toArray, by rw [List.length_append, ha.1], hgb, setRow_heap _ g _ _ _ _ hcur, by rw [List.length_append, ha.1]; exact hr, hcm, by rw [List.size_toArray, length_splice _ _ _ hfit, hlen]; omega, ?_⟩⟩, hwf⟩, below_setRow (Below.refl _ w) hgb _⟩
      rw [List.toList_toArray]
      have h3 : (splice cur.toList (0 + xs.length * 1) (ys.map (Value.int k))).take (0 + xs.length * 1 + (ys.map (Value.int k)).length) = cur.toList.take (0 + xs.length * 1) ++ ys.map (Value.int k) := by
        unfold splice
        rw [← List.append_assoc, List.take_left' (by rw [List.length_append, List.length_take]; omega)]
      rw [hml, Nat.zero_add, Nat.mul_one] at h3
      rw [List.length_append, ha.1, Nat.mul_one, Nat.zero_add, Nat.mul_one, h3, List.map_append, ← htk, Nat.mul_one]
set_option maxRecDepth 8000 in
set_option maxHeartbeats 1000000 in
theorem growInts (k : Nat) (w : World) (hk : k * 8 ≤ 281474976710656) :
    Calls Try.prog 55 #[.slice none 0 0, .int .i64 k] w fun e w' => ∃ A cp, e = .returned (.slice A 0 cp) ∧ k ≤ cp ∧ Own .i64 3 w' w.heap.size (.slice A 0 cp) [] ∧ Below w.heap.size w w' := by
  rcases Nat.eq_zero_or_pos k with h0 | h0
  · subst h0
    go_enter Try.func55, Try.ntmps55
    go_wp2
    go_ret
    exact ⟨none, 0, rfl, Nat.le_refl _, Own.nil, Below.refl _ _⟩
  · obtain ⟨i, hi, hz, hs, hby⟩ := info_parts intI_info
    have hrun := Lib.run_append_nil_zeros (P := Try.prog) w 23 3 23 3 i _ .i64 .i64 Try.underlying23 Try.underlying3 hi hz k h0 (by rw [hs]; omega) (by omega) (by rw [hby]; omega)
    have HR := Lib.hid hrun
    have hge := grownCap_ge w k 0 3
    have hle := grownCap_le_maxLen w k 0 3 (by unfold maxLen; omega)
    obtain ⟨cp, hcp⟩ : ∃ cp, grownCap w k 0 3 = cp := ⟨_, rfl⟩
    rw [hcp] at HR hge hle
    obtain ⟨cs, hcs⟩ : ∃ cs, (Builtin.zeroCells (Value.int .i64 0).cells k ++ Builtin.zeroCells (Value.int .i64 0).cells (cp - k)) = cs := ⟨_, rfl⟩
    have hsz : cs.size = cp * 1 := by
      rw [← hcs]
      simp [Builtin.zeroCells, Value.cells]
      omega
    rw [hcs] at HR
    have hO : Own .i64 3 (w.drew.alloc (.cells cs 3)) w.heap.size (.slice (some ⟨w.heap.size, 0, none⟩) 0 cp) [] :=
      ⟨⟨by simp, .inr ⟨w.heap.size, cp, cs, rfl, Nat.le_refl _, heap_alloc_new w.drew _, Nat.zero_le _, hle, hsz, by simp⟩⟩, fun x hx => by cases hx⟩
    have HO := Lib.hid hO
    have HB : Hid (Below w.heap.size w (w.drew.alloc (.cells cs 3))) := Lib.hid ((below_drewN (Below.refl _ w) 1).alloc (Nat.le_refl _) _)
    have HGE := Lib.hid hge
    have hcp0 : ¬ cp = 0 := by omega
    unfold maxLen at *
    clear hrun hO hle hsz hcs hcp hi hz hs hby
    have k1 : ¬ ((k : Int) < 0) := by omega
    have k2 : (0 : Int) < k := by omega
    go_enter Try.func55, Try.ntmps55
    go_wp2_with (at_builtin; refine wpList_append_runI rfl (.tmp 20) (.tmp 21) 23 3 rfl rfl rfl HR.out ?_)
    go_ret
    exact ⟨_, cp, rfl, HGE.out, HO.out, HB.out⟩
/-- The first 'k' of two lists, one behind the other. -/
def cat2 (xs ys : List Int) : Nat → List Int
  | 0 => []
  | 1 => xs
  | _ + 2 => xs ++ ys
set_option maxRecDepth 8000 in
set_option maxHeartbeats 1000000 in
/-- slices.Concat of two slices. -/
theorem concat2C (A1 A2 : Option Addr) (n1 c1 n2 c2 g : Nat) (xs ys : List Int) (w : World) (hT : (n1 + n2) * 8 ≤ 281474976710656) (hg : g < w.heap.size) (h1 : Arr .i64 w w.heap.size A1 n1 xs) (h2 : Arr .i64 w w.heap.size A2 n2 ys)
    (d0 : w.cell? ⟨g, 0, none⟩ = some (.slice A1 n1 c1)) (d1 : w.cell? ⟨g, 1, none⟩ = some (.slice A2 n2 c2)) :
    Calls Try.prog 23 #[.slice (some ⟨g, 0, none⟩) 2 2] w fun e w' => ∃ A c, e = .returned (.slice A (n1 + n2) c) ∧ n1 + n2 ≤ c ∧ Arr .i64 w' w'.heap.size A (n1 + n2) (xs ++ ys) ∧ Below w.heap.size w w' := by
  have HA1 := Lib.hid h1
  have HA2 := Lib.hid h2
  have HG := Lib.hid hg
  have l1 := h1.1
  have l2 := h2.1
  have HD0 := Lib.hid d0
  have HD1 := Lib.hid d1
  clear h1 h2 hg d0 d1
  go_enter Try.func23, Try.ntmps23
  go_wp2_with fail
  go_loopw [3, 11] (fun s i wr => w = wr ∧ ((i = .int .i64 0 ∧ s = .int .i64 0) ∨ (i = .int .i64 1 ∧ s = .int .i64 n1) ∨ (i = .int .i64 2 ∧ s = .int .i64 ((n1 + n2 : Nat) : Int)))) (fun _ i _ => 2 - (intOf i).toNat)
  case atStart => exact ⟨rfl, .inl ⟨rfl, rfl⟩⟩
  case round =>
    obtain ⟨rfl, ⟨rfl, rfl⟩ | ⟨rfl, rfl⟩ | ⟨rfl, rfl⟩⟩ := hrel
    · have d0 := HD0.out
      go_wp2
      go_roundw
      case rel => exact ⟨by trivial, .inr (.inl ⟨by go_num, by go_num⟩)⟩
      case measure => simp [intOf]
    · have d1 := HD1.out
      have q1 : ¬ ((n1 : Int) + (n2 : Int) < 0) := by omega
      go_wp2
      go_roundw
      case rel => exact ⟨by trivial, .inr (.inr ⟨by go_num, by go_num⟩)⟩
      case measure => simp [intOf]
    · have HGR := Lib.hid (growInts (n1 + n2) w hT)
      obtain ⟨N, hN⟩ : ∃ N, n1 + n2 = N := ⟨_, rfl⟩
      rw [hN] at HGR ⊢
      have HNN := Lib.hid hN
      clear hN
      go_wp2_with fail
      refine HGR.out.mono ?_
      rintro e w1 ⟨V, cp, rfl, hcp, hO, b1⟩
      have HO := Lib.hid hO
      have HB1 := Lib.hid b1
      have HCP := Lib.hid hcp
      clear hO b1 HGR hcp
      go_wp2_with fail
      go_loopw [6, 27] (fun v i wr => Hid (Below w.heap.size w wr) ∧ ∃ j : Nat, j ≤ 2 ∧ i = .int .i64 j ∧ v = .slice V (cat2 xs ys j).length cp ∧ Hid (Own .i64 3 wr w.heap.size (.slice V (cat2 xs ys j).length cp) (cat2 xs ys j))) (fun _ i _ => 2 - (intOf i).toNat)
      case atStart => exact ⟨HB1, 0, by omega, rfl, rfl, HO⟩
      case round =>
        obtain ⟨hBw, j, hj, rfl, rfl, hOw⟩ := hrel
        clear HO HB1
        have e0 := (hBw.out.cell (p := ⟨g, 0, none⟩) HG.out).trans HD0.out
        have e1 := (hBw.out.cell (p := ⟨g, 1, none⟩) HG.out).trans HD1.out
        rcases (by omega : j = 0 ∨ j = 1 ∨ j = 2) with rfl | rfl | rfl
        · obtain ⟨w4, hrun, hO', hG'⟩ := hOw.out.catC (P := Try.prog) (t := 23) (ty := 23) (c := c1) Try.underlying23 intI_info (HA1.out.below hBw.out (Nat.le_refl _)) (by show 0 + n1 ≤ cp; have := HCP.out; have := HNN.out; omega)
          have hl : (cat2 xs ys 0).length + n1 = (cat2 xs ys 1).length := by show 0 + n1 = xs.length; omega
          rw [hl] at hrun hO'
          have HR := Lib.hid hrun
          have HO' : Hid (Own .i64 3 w4 w.heap.size (.slice V (cat2 xs ys 1).length cp) (cat2 xs ys 1)) := Lib.hid hO'
          have HB' := Lib.hid (hBw.out.trans hG')
          clear hrun hO' hG' hOw hl e1
          generalize (cat2 xs ys 0).length = L0 at *
          obtain ⟨L1, hL1⟩ : ∃ L1, (cat2 xs ys 1).length = L1 := ⟨_, rfl⟩
          rw [hL1] at HR
          have HL1 := Lib.hid hL1
          clear hL1
          go_wp2_with (at_builtin; refine wpList_append_run rfl (.tmp 31) (.tmp 32) 23 rfl rfl rfl HR.out ?_)
          go_roundw
          case rel => exact ⟨HB', 1, by omega, by go_num, by rw [HL1.out], HO'⟩
          case measure => simp [intOf]
        · obtain ⟨w4, hrun, hO', hG'⟩ := hOw.out.catC (P := Try.prog) (t := 23) (ty := 23) (c := c2) Try.underlying23 intI_info (HA2.out.below hBw.out (Nat.le_refl _)) (by show xs.length + n2 ≤ cp; have := HCP.out; have := HNN.out; omega)
          have hl : (cat2 xs ys 1).length + n2 = (cat2 xs ys 2).length := by show xs.length + n2 = (xs ++ ys).length; rw [List.length_append]; omega
          rw [hl] at hrun hO'
          have HR := Lib.hid hrun
          have HO' : Hid (Own .i64 3 w4 w.heap.size (.slice V (cat2 xs ys 2).length cp) (cat2 xs ys 2)) := Lib.hid hO'
          have HB' := Lib.hid (hBw.out.trans hG')
          clear hrun hO' hG' hOw hl e0
          generalize (cat2 xs ys 1).length = L0 at *
          obtain ⟨L1, hL1⟩ : ∃ L1, (cat2 xs ys 2).length = L1 := ⟨_, rfl⟩
          rw [hL1] at HR
          have HL1 := Lib.hid hL1
          clear hL1
          go_wp2_with (at_builtin; refine wpList_append_run rfl (.tmp 31) (.tmp 32) 23 rfl rfl rfl HR.out ?_)
          go_roundw
          case rel => exact ⟨HB', 2, by omega, by go_num, by rw [HL1.out], HO'⟩
          case measure => simp [intOf]
        · have hl : (cat2 xs ys 2).length = N := by
            show (xs ++ ys).length = N
            rw [List.length_append]; have := HNN.out; omega
          obtain ⟨A', c', hv, hc', hA'⟩ := hOw.out.arr
          injection hv with v1 v2 v3
          subst v1 v3
          clear v2
          rw [hl] at hA' hc' ⊢
          have HA' := Lib.hid hA'
          have HC' := Lib.hid hc'
          clear hA' hOw hl e0 e1 hc'
          go_wp2
          go_ret
          exact ⟨V, cp, by rw [HNN.out]; rfl, by rw [HNN.out]; exact HC'.out, by rw [HNN.out]; exact HA'.out, hBw.out⟩
theorem concat2 (A1 A2 : Option Addr) (n1 c1 n2 c2 g : Nat) (xs ys : List Int) (w : World) (hT : (n1 + n2) * 8 ≤ 281474976710656) (hg : g < w.heap.size) (h1 : Arr .i64 w w.heap.size A1 n1 xs) (h2 : Arr .i64 w w.heap.size A2 n2 ys)
    (d0 : w.cell? ⟨g, 0, none⟩ = some (.slice A1 n1 c1)) (d1 : w.cell? ⟨g, 1, none⟩ = some (.slice A2 n2 c2)) :
    Calls Try.prog 23 #[.slice (some ⟨g, 0, none⟩) 2 2] w fun e w' => ∃ A c, e = .returned (.slice A (n1 + n2) c) ∧ Arr .i64 w' w'.heap.size A (n1 + n2) (xs ++ ys) ∧ Below w.heap.size w w' :=
  (concat2C A1 A2 n1 c1 n2 c2 g xs ys w hT hg h1 h2 d0 d1).mono fun _ _ ⟨A, c, e1, _, e2, e3⟩ => ⟨A, c, e1, e2, e3⟩
end Go.Proofs.Ytjefbekdjgmmbaa
