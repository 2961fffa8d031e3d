/-
  TwinTells: the law's own closure 'add', where it adds.
-/
import Derived.Test.YtdieokpfkojoiaaTellsA
import Derived.Test.YtdieokpfkojoiaaHeldLast
namespace Go.Proofs.Ytdieokpfkojoiaa
open Go.RowKit

theorem run_append_op {P : Program} {w : World} {o : Oper} {a : Act} (s x : Operand) (t : TypeId)
    (ho : o.op = .call { callee := .builtin .append, args := #[s, x], argTypes := #[t, t] }) {v src v' : Value} {w' : World} (hs : a.eval s = v) (hx : a.eval x = src)
    (hrun : Sem.run P (Builtin.append_ #[t, t] o.type #[v, src]) w = .ok v' w') : (execOp a.eval o).run P w = .ok (.value v') w' := by
  unfold execOp
  simp only [ho, resolve, invoke, builtin, Sem.run_bind, Sem.run_pure, Result.andThen_ok, List.map_toArray, List.map_cons, List.map_nil, hs, hx, hrun]

set_option maxRecDepth 8000 in
set_option maxHeartbeats 4000000 in
theorem add_no (k : Int) (A32 A22 : Option Addr) (N32 c32 N22 c22 g33 g32 g22 g28 g31 g6 base p L M : Nat) (xs : List Room) (G : List (Int × Int)) (w : World)
    (h33 : Box w g33 4 #[.bool false]) (h32 : Box w g32 24 #[.int .i64 k, .slice A32 N32 c32]) (h22 : Box w g22 33 #[.slice A22 N22 c22]) (h28 : Box w g28 3 #[.int .i64 p]) (h31 : Box w g31 3 #[.int .i64 L]) (h6 : Box w g6 3 #[.int .i64 M])
    (hG : ArrG runC 2 w base A22 N22 G) (hlt : g22 < base ∧ g28 < base ∧ g31 < base ∧ g6 < base) (hp : p < N22) (_hN : N22 ≤ 1000) (hO : OwnG roomC 3 42 w base (.slice A32 N32 c32) xs) (hxs : xs.length ≤ 1000) (hb1 : g32 < g33) (hb2 : g33 < base) (hb3 : base ≤ w.heap.size) :
    Calls Try.prog 17 #[.pointer (some ⟨g33, 0, none⟩), .pointer (some ⟨g32, 0, none⟩), .pointer (some ⟨g22, 0, none⟩), .pointer (some ⟨g28, 0, none⟩), .pointer (some ⟨g31, 0, none⟩), .pointer (some ⟨g6, 0, none⟩)] w fun e w' => (∃ r, e = .returned r) ∧ ∃ A' N' c', OwnG roomC 3 42 w' base (.slice A' N' c') (xs ++ [((nthG G p).1, (L : Int), (M : Int))]) ∧ Box w' g33 4 #[.bool true] ∧ Box w' g32 24 #[.int .i64 k, .slice A' N' c'] ∧ Below g32 w w' ∧ ∀ i, i < w.heap.size → i ≠ g32 → i ≠ g33 → (Value.slice A32 N32 c32).ownBlock ≠ some i → w'.heap[i]? = w.heap[i]? := by
  have c33 : w.cell? ⟨g33, 0, none⟩ = some (.bool false) := h33.cell 0
  have c32a : w.cell? ⟨g32, 1, none⟩ = some (.slice A32 N32 c32) := h32.cell 1
  have c22a : w.cell? ⟨g22, 0, none⟩ = some (.slice A22 N22 c22) := h22.cell 0
  have c28 : w.cell? ⟨g28, 0, none⟩ = some (.int .i64 p) := h28.cell 0
  have c31 : w.cell? ⟨g31, 0, none⟩ = some (.int .i64 L) := h31.cell 0
  have c6 : w.cell? ⟨g6, 0, none⟩ = some (.int .i64 M) := h6.cell 0
  obtain ⟨b, off, rfl, hbB, v0, v1⟩ := hG.run hp
  have hp' : (p : Int) < (N22 : Int) := by omega
  obtain ⟨X, hX⟩ : ∃ X, (nthG G p).1 = X := ⟨_, rfl⟩
  rw [hX] at v0 ⊢
  clear hX
  obtain ⟨v', w8, hrun, hO', hB', hK8, _⟩ := (hO.drewN 1).pushK (P := Try.prog) (t := 22) (ty := 22) roomC_len roomC_one (by omega) Try.underlying22 roomI rfl (by omega) (X, (L : Int), (M : Int)) (by omega) hb3
  obtain ⟨A8, c8, rfl, _, _⟩ := hO'.arr roomC_len
  have hB8 := below_of_drewNR hB'
  obtain ⟨N8, hN8⟩ : ∃ N8, (xs ++ [(X, (L : Int), (M : Int))]).length = N8 := ⟨_, rfl⟩
  rw [hN8] at hrun hO'
  have k32 := h32.below hB8 (by omega)
  have k33 := h33.below hB8 (by omega)
  have x8 : w8.cell? ⟨g32, 1, none⟩ = some (.slice A32 N32 c32) := k32.cell 1
  have y8 := k32.soft 1
  have x9 : w8.cell? ⟨g33, 0, none⟩ = some (.bool false) := k33.cell 0
  have y9 := k33.soft 0
  have hrun2 : Sem.run Try.prog (Builtin.append_ #[22, 22] 22 #[.slice A32 N32 c32, .slice (some ⟨w.heap.size, 0, none⟩) 1 1]) (w.drew.alloc (.cells #[.int .i64 X, .int .i64 L, .int .i64 M] 42)) = .ok (.slice A8 N8 c8) w8 := hrun
  have HR := Lib.hid hrun2
  have Q32 : Hid (Box (w8.setCell ⟨g32, 1, none⟩ (.slice A8 N8 c8)) g32 24 #[.int .i64 k, .slice A8 N8 c8]) := k32.set 1 (.slice A8 N8 c8)
  have Q33 : Hid (Box (w8.setCell ⟨g32, 1, none⟩ (.slice A8 N8 c8)) g33 4 #[.bool false]) := k33.setOther (by omega) 1 (.slice A8 N8 c8)
  have QO := Lib.hid (hO'.setOther (g := g32) (by omega) 1 (.slice A8 N8 c8))
  have QB := Lib.hid (below_set (hB8.mono (by omega : g32 ≤ base)) (Nat.le_refl _) 1 (.slice A8 N8 c8))
  have HK8 : Hid (∀ i, i < w.heap.size → i ≠ g32 → i ≠ g33 → (Value.slice A32 N32 c32).ownBlock ≠ some i → ((w8.setCell ⟨g32, 1, none⟩ (.slice A8 N8 c8)).setCell ⟨g33, 0, none⟩ (.bool true)).heap[i]? = w.heap[i]?) := fun i h1 h2 h3 h4 => by
    rw [Below.heap_setCell _ _ _ _ h3, Below.heap_setCell _ _ _ _ h2]
    exact hK8 i h1 h4
  have ha8 := (Below.refl _ w).alloc (Nat.le_refl _) (.cells #[.int .i64 X, .int .i64 L, .int .i64 M] 42)
  have l32 := h32.lt
  have c32b := (ha8.cell (p := ⟨g32, 1, none⟩) l32).trans c32a
  have HB8 := Lib.hid hB8
  clear ha8 h33 h32 h22 h28 h31 h6 hG hO hrun hrun2 hO' hB' hB8 k32 k33 v1 c32b l32 hK8
  go_enter Try.func17, Try.ntmps17
  go_wp2_with fail
  refine wp_region_Z 13 (fun w' => w'.cell? ⟨g32, 1, none⟩ = some (.slice A32 N32 c32) ∧ w'.cell? ⟨g22, 0, none⟩ = some (.slice (some ⟨b, off, none⟩) N22 c22) ∧ w'.cell? ⟨g28, 0, none⟩ = some (.int .i64 p) ∧ w'.cell? ⟨b, off + p * 2, none⟩ = some (.int .i64 X) ∧ w'.cell? ⟨g31, 0, none⟩ = some (.int .i64 L) ∧ w'.cell? ⟨g6, 0, none⟩ = some (.int .i64 M)) (by kernel_rfl) ?_
  have hS0 : w.drew.cell? ⟨g32, 1, none⟩ = some (.slice A32 N32 c32) ∧ w.drew.cell? ⟨g22, 0, none⟩ = some (.slice (some ⟨b, off, none⟩) N22 c22) ∧ w.drew.cell? ⟨g28, 0, none⟩ = some (.int .i64 p) ∧ w.drew.cell? ⟨b, off + p * 2, none⟩ = some (.int .i64 X) ∧ w.drew.cell? ⟨g31, 0, none⟩ = some (.int .i64 L) ∧ w.drew.cell? ⟨g6, 0, none⟩ = some (.int .i64 M) := ⟨c32a, c22a, c28, v0, c31, c6⟩
  change anyZ _ _ _ _ _ _ _ _ _ w.drew
  refine anyZ_take (i := 0) (v := .pointer (some ⟨g32, 1, none⟩)) rfl rfl (by kernel_rfl) (by kernel_rfl) (by kernel_rfl) (by kernel_rfl) (fun _ _ _ h => h) (Or.inl ⟨by rfl, fun wx hS => ?_⟩) hS0 ?_
  · obtain ⟨q1, q2, q3, q4, q5, q6⟩ := hS
    go_simp
  refine anyZ_take (i := 1) (v := .slice A32 N32 c32) rfl rfl (by kernel_rfl) (by kernel_rfl) (by kernel_rfl) (by kernel_rfl) (fun _ _ _ h => h) (Or.inl ⟨by rfl, fun wx hS => ?_⟩) hS0 ?_
  · obtain ⟨q1, q2, q3, q4, q5, q6⟩ := hS
    go_simp
  refine anyZ_take (i := 2) (v := .slice (some ⟨b, off, none⟩) N22 c22) rfl rfl (by kernel_rfl) (by kernel_rfl) (by kernel_rfl) (by kernel_rfl) (fun _ _ _ h => h) (Or.inl ⟨by rfl, fun wx hS => ?_⟩) hS0 ?_
  · obtain ⟨q1, q2, q3, q4, q5, q6⟩ := hS
    go_simp
  refine anyZ_take (i := 3) (v := .int .i64 p) rfl rfl (by kernel_rfl) (by kernel_rfl) (by kernel_rfl) (by kernel_rfl) (fun _ _ _ h => h) (Or.inl ⟨by rfl, fun wx hS => ?_⟩) hS0 ?_
  · obtain ⟨q1, q2, q3, q4, q5, q6⟩ := hS
    go_simp
  refine anyZ_take (i := 4) (v := .pointer (some ⟨b, off + p * 2, none⟩)) rfl rfl (by kernel_rfl) (by kernel_rfl) (by kernel_rfl) (by kernel_rfl) (fun _ _ _ h => h) (Or.inl ⟨by rfl, fun wx hS => ?_⟩) hS0 ?_
  · obtain ⟨q1, q2, q3, q4, q5, q6⟩ := hS
    go_simp
  refine anyZ_take (i := 5) (v := .pointer (some ⟨b, off + p * 2, none⟩)) rfl rfl (by kernel_rfl) (by kernel_rfl) (by kernel_rfl) (by kernel_rfl) (fun _ _ _ h => h) (Or.inl ⟨by rfl, fun wx hS => ?_⟩) hS0 ?_
  · obtain ⟨q1, q2, q3, q4, q5, q6⟩ := hS
    go_simp
  refine anyZ_take (i := 6) (v := .int .i64 X) rfl rfl (by kernel_rfl) (by kernel_rfl) (by kernel_rfl) (by kernel_rfl) (fun _ _ _ h => h) (Or.inl ⟨by rfl, fun wx hS => ?_⟩) hS0 ?_
  · obtain ⟨q1, q2, q3, q4, q5, q6⟩ := hS
    go_simp
  refine anyZ_take (i := 7) (v := .int .i64 L) rfl rfl (by kernel_rfl) (by kernel_rfl) (by kernel_rfl) (by kernel_rfl) (fun _ _ _ h => h) (Or.inl ⟨by rfl, fun wx hS => ?_⟩) hS0 ?_
  · obtain ⟨q1, q2, q3, q4, q5, q6⟩ := hS
    go_simp
  refine anyZ_take (i := 8) (v := .int .i64 M) rfl rfl (by kernel_rfl) (by kernel_rfl) (by kernel_rfl) (by kernel_rfl) (fun _ _ _ h => h) (Or.inl ⟨by rfl, fun wx hS => ?_⟩) hS0 ?_
  · obtain ⟨q1, q2, q3, q4, q5, q6⟩ := hS
    go_simp
  refine anyZ_take (i := 9) (v := .agg #[.int .i64 X, .int .i64 L, .int .i64 M]) rfl rfl (by kernel_rfl) (by kernel_rfl) (by kernel_rfl) (by kernel_rfl) (fun _ _ _ h => h) (Or.inl ⟨by rfl, fun wx hS => ?_⟩) hS0 ?_
  · obtain ⟨q1, q2, q3, q4, q5, q6⟩ := hS
    go_simp
  have va := (Below.refl _ w.drew).alloc (Nat.le_refl _) (.cells #[.int .i64 X, .int .i64 L, .int .i64 M] 42)
  have hlw : base ≤ w.drew.heap.size := hb3
  have hS1 : (w.drew.alloc (.cells #[.int .i64 X, .int .i64 L, .int .i64 M] 42)).cell? ⟨g32, 1, none⟩ = some (.slice A32 N32 c32) ∧ (w.drew.alloc (.cells #[.int .i64 X, .int .i64 L, .int .i64 M] 42)).cell? ⟨g22, 0, none⟩ = some (.slice (some ⟨b, off, none⟩) N22 c22) ∧ (w.drew.alloc (.cells #[.int .i64 X, .int .i64 L, .int .i64 M] 42)).cell? ⟨g28, 0, none⟩ = some (.int .i64 p) ∧ (w.drew.alloc (.cells #[.int .i64 X, .int .i64 L, .int .i64 M] 42)).cell? ⟨b, off + p * 2, none⟩ = some (.int .i64 X) ∧ (w.drew.alloc (.cells #[.int .i64 X, .int .i64 L, .int .i64 M] 42)).cell? ⟨g31, 0, none⟩ = some (.int .i64 L) ∧ (w.drew.alloc (.cells #[.int .i64 X, .int .i64 L, .int .i64 M] 42)).cell? ⟨g6, 0, none⟩ = some (.int .i64 M) :=
    ⟨(va.cell (p := ⟨g32, 1, none⟩) (by show g32 < _; omega)).trans hS0.1, (va.cell (p := ⟨g22, 0, none⟩) (by show g22 < _; omega)).trans hS0.2.1, (va.cell (p := ⟨g28, 0, none⟩) (by show g28 < _; omega)).trans hS0.2.2.1, (va.cell (p := ⟨b, off + p * 2, none⟩) (by show b < _; omega)).trans hS0.2.2.2.1, (va.cell (p := ⟨g31, 0, none⟩) (by show g31 < _; omega)).trans hS0.2.2.2.2.1, (va.cell (p := ⟨g6, 0, none⟩) (by show g6 < _; omega)).trans hS0.2.2.2.2.2⟩
  have hS2 : w8.cell? ⟨g32, 1, none⟩ = some (.slice A32 N32 c32) ∧ w8.cell? ⟨g22, 0, none⟩ = some (.slice (some ⟨b, off, none⟩) N22 c22) ∧ w8.cell? ⟨g28, 0, none⟩ = some (.int .i64 p) ∧ w8.cell? ⟨b, off + p * 2, none⟩ = some (.int .i64 X) ∧ w8.cell? ⟨g31, 0, none⟩ = some (.int .i64 L) ∧ w8.cell? ⟨g6, 0, none⟩ = some (.int .i64 M) :=
    ⟨x8, (HB8.out.cell (p := ⟨g22, 0, none⟩) hlt.1).trans c22a, (HB8.out.cell (p := ⟨g28, 0, none⟩) hlt.2.1).trans c28, (HB8.out.cell (p := ⟨b, off + p * 2, none⟩) hbB).trans v0, (HB8.out.cell (p := ⟨g31, 0, none⟩) hlt.2.2.1).trans c31, (HB8.out.cell (p := ⟨g6, 0, none⟩) hlt.2.2.2).trans c6⟩
  refine anyZ_one (i := 10) (v := .slice (some ⟨w.heap.size, 0, none⟩) 1 1) (w' := w.drew.alloc (.cells #[.int .i64 X, .int .i64 L, .int .i64 M] 42)) (by kernel_rfl) rfl (by rfl) ?_ (.inr hS1) ?_
  · go_simp
  refine anyZ_one (i := 11) (v := .slice A8 N8 c8) (w' := w8) (by kernel_rfl) rfl (by rfl) ?_ (.inr hS2) ?_
  · refine run_append_op (v := .slice A32 N32 c32) (src := .slice (some ⟨w.heap.size, 0, none⟩) 1 1) (.tmp 9) (.tmp 18) 22 rfl ?_ ?_ HR.out
    · simp [Act.eval, Act.put]
    · simp [Act.eval, Act.put]
  refine anyZ_one (i := 12) (v := .pointer (some ⟨g32, 1, none⟩)) (w' := w8) (by kernel_rfl) rfl (by rfl) ?_ (.inr hS2) ?_
  · go_simp
  refine anyZ_skip (i := 13) (w' := w8.setCell ⟨g32, 1, none⟩ (.slice A8 N8 c8)) (by kernel_rfl) rfl (by rfl) ?_ (.inl rfl) ?_
  · go_simp
  refine anyZ_done (by kernel_rfl) ?_ _
  clear hS0 hS1 hS2 va
  have z9 : (w8.setCell ⟨g32, 1, none⟩ (.slice A8 N8 c8)).cell? ⟨g33, 0, none⟩ = some (.bool false) := Q33.out.cell 0
  have z8 := Q33.out.soft 0
  have R33 : Hid (Box ((w8.setCell ⟨g32, 1, none⟩ (.slice A8 N8 c8)).setCell ⟨g33, 0, none⟩ (.bool true)) g33 4 #[.bool true]) := Q33.out.set 0 (.bool true)
  have R32 := Lib.hid (Q32.out.setOther (g' := g33) (by omega) 0 (.bool true))
  have RO := Lib.hid (QO.out.setOther (g := g33) (by omega) 0 (.bool true))
  have RB := Lib.hid (below_set QB.out (g := g33) (by omega) 0 (.bool true))
  clear Q32 Q33 QO QB HR x8 y8 x9 y9 c33 c32a c22a c28 c31 c6 v0
  generalize (w8.setCell ⟨g32, 1, none⟩ (.slice A8 N8 c8)) = w9 at *
  go_wp2
  refine bodyPost_end (v := .tuple #[]) (by simp [results, Try.results17, go_sem]) rfl ⟨⟨_, rfl⟩, _, _, _, RO.out, R33.out, R32.out, RB.out, HK8.out⟩
end Go.Proofs.Ytdieokpfkojoiaa
