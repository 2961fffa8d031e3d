/-
  Contracts of slices.IsSorted at a list that rises, and of slices.Repeat at one number.
-/
import Derived.Test.YtdieokpfkojoiaaRootR
import Derived.Test.YtdieokpfkojoiaaWalkB
import Derived.Deep.RegionHeld3
namespace Go.Proofs.Ytdieokpfkojoiaa
open Go.RowKit

set_option maxHeartbeats 400000 in
theorem lessNo_any (x y : Int) (w : World) (h : y ≤ x) : Calls Try.prog 51 #[.int .i64 x, .int .i64 y] w fun e w' => e = .returned (.bool false) ∧ w = w' := by
  have hN : ∀ z wx, Calls Try.prog 65 #[.int .i64 z] wx fun e w' => e = .returned (.bool false) ∧ wx = w' := by
    intro z wx
    have c1 : (z != z) = false := by simp
    go_enter Try.func65, Try.ntmps65
    go_wp2
    go_ret
    exact ⟨rfl, rfl⟩
  have HN := Lib.hid hN
  have c1 : (x < y) = False := eq_false (by omega)
  clear hN h
  go_enter Try.func51, Try.ntmps51
  go_wp2_with fail
  refine (HN.out _ _).mono ?_
  rintro e w1 ⟨rfl, rfl⟩
  go_wp2
  go_ret
  exact ⟨rfl, rfl⟩

theorem quiet_sameI {P : Program} {f : FuncId} {args : Array Value} {w : World} {n : Nat} {v : Value} (h : Calls P f args (w.drewN n) fun e w' => e = .returned v ∧ w.drewN n = w') :
    Calls P f args (w.drewN n) fun e w'' => e = .returned v ∧ ∃ m, w'' = w.drewN m := h.mono fun _ _ ⟨he, hm⟩ => ⟨he, n, hm.symm⟩

set_option maxHeartbeats 400000 in
theorem isSorted_yes (A : Option Addr) (n c B : Nat) (xs : List Int) (w : World) (hn : n ≤ maxLen) (ha : Arr .i64 w B A n xs) (hs : xs.Pairwise (· ≤ ·)) :
    Calls Try.prog 28 #[.slice A n c] w fun e w' => e = .returned (.bool true) ∧ ∃ q, w.drewN q = w' := by
  unfold maxLen at hn
  have HA := Lib.hid ha
  have HS := Lib.hid hs
  have hl := ha.1
  clear ha hs
  rcases Nat.eq_zero_or_pos n with h0 | h0
  · subst h0
    go_enter Try.func28, Try.ntmps28
    go_wp2_with fail
    go_loopw [3] (fun i wr => i = .int .i64 (-1) ∧ w = wr) (fun _ _ => 0)
    case atStart => exact ⟨by go_num, rfl⟩
    case round =>
      obtain ⟨rfl, rfl⟩ := hrel
      go_wp2
      go_ret
      exact ⟨rfl, 0, rfl⟩
  · obtain ⟨b, off, rfl, _, hcs⟩ := HA.out.2.2 h0
    have HC := Lib.hid hcs
    clear hcs
    go_enter Try.func28, Try.ntmps28
    go_wp2_with fail
    go_loopw [3] (fun i wr => ∃ k : Nat, k < n ∧ i = .int .i64 k ∧ ∃ q, w.drewN q = wr) (fun i _ => (intOf i).toNat)
    case atStart => exact ⟨n - 1, by omega, by go_num, 0, rfl⟩
    case round =>
      obtain ⟨k, hk, rfl, q, rfl⟩ := hrel
      by_cases hp : 0 < k
      · obtain ⟨j, hj⟩ : ∃ j, k = j + 1 := ⟨k - 1, by omega⟩
        have c0 := HC.out k hk
        have c1 := HC.out j (by omega)
        have hle : nth xs j ≤ nth xs k := by
          rw [nth_get _ _ (by omega), nth_get _ _ (by omega)]
          exact List.pairwise_iff_getElem.1 HS.out j k (by omega) (by omega) (by omega)
        have HQ := Lib.hid (fun wx => lessNo_any (nth xs k) (nth xs j) wx hle)
        have HJ := Lib.hid hj
        have hjn : j < n := by omega
        have e1 : (k : Int) - 1 = j := by omega
        have e2 : IntKind.i64.wrap (j : Int) = j := IntWalk.i64_in _ (by omega)
        clear hle hj
        generalize nth xs k = X at *
        generalize nth xs j = Y at *
        have d0 : (w.drewN q).cell? ⟨b, off + k, none⟩ = some (.int .i64 X) := c0
        have d1 : (w.drewN q).cell? ⟨b, off + j, none⟩ = some (.int .i64 Y) := c1
        clear c0 c1
        obtain ⟨W, hW⟩ : ∃ W, w.drewN q = W := ⟨_, rfl⟩
        rw [hW] at d0 d1 ⊢
        have HWq := Lib.hid hW
        clear hW
        go_wp2_with fail
        go_quiet ((go_at_call 51; exact quiet_sameI (HQ.out _)))
        go_wp2
        go_roundw
        case rel => exact ⟨j, by omega, by go_num, _, (by rw [← HWq.out]; exact (World.drewN_drewN w q _).symm)⟩
        case measure => have := HJ.out; simp [intOf]; omega
      · obtain rfl : k = 0 := by omega
        go_wp2
        go_ret
        exact ⟨rfl, _, rfl⟩

theorem run_copy_ints2 {P : Program} {k : IntKind} {dT sT ty t : TypeId} (hu : P.underlying dT = some (.slice t)) (hs : (P.info? t).map (·.size) = some 1) {w : World} {B g off n dn sn dc sc : Nat} {dp sp : Option Addr} {cur src : List Int}
    (hW : Whole k t w g cur) (ha : Arr k w B sp n src) (hm : Nat.min sn dn = n) (hd : 0 < n → dp = some ⟨g, off, none⟩) (hfit : off + n ≤ cur.length) :
    Sem.run P (Builtin.copy_ #[dT, sT] ty #[.slice dp dn dc, .slice sp sn sc]) w = .ok (.int .i64 n) (w.setRow g ((splice cur off src).map (Value.int k)).toArray) := by
  obtain ⟨hl, hwf, hc⟩ := ha
  rcases Nat.eq_zero_or_pos n with h0 | h0
  · subst h0
    have hsrc : src = [] := List.eq_nil_of_length_eq_zero hl
    subst hsrc
    have h := run_copy_none (P := P) w dT sT ty t dp sp dn dc sn sc hu hs hm
    rw [h]
    have e : splice cur off [] = cur := by simp [splice]
    rw [e, setRow_self w g _ t (0, 0) hW.1]
    rfl
  · obtain ⟨b, o, rfl, _, hcell⟩ := hc h0
    obtain rfl := hd h0
    have h := run_copy_row P w dT sT ty t g off dn dc ⟨b, o, none⟩ sn sc _ t (src.map (Value.int k)) hu hs hW.1 (by rw [hm]; simp [hl]) ?_ (by simpa [hl] using hfit) ?_
    · rw [h]
      congr 2
      · simp [hl]
      · simp [splice, List.map_append, List.map_take, List.map_drop]
    · intro j v hj
      have hjl : j < n := by
        have := (List.getElem?_eq_some_iff.1 hj).1
        simpa [hl] using this
      have e : (⟨b, o, none⟩ : Addr).add j = ⟨b, o + j, none⟩ := by unfold Addr.add; split <;> simp_all
      rw [e, hcell j hjl, ← hj]
      simp [nth, List.getElem?_eq_getElem (by omega : j < src.length)]
    · intro v hv
      obtain ⟨z, _, rfl⟩ := List.mem_map.1 hv
      rfl

theorem below_setRowI {B : Nat} {a w : World} (h : Below B a w) {g : Nat} (hg : B ≤ g) (cs : Array Value) : Below B a (w.setRow g cs) :=
  h.trans ⟨rfl, rfl, rfl, by simp [World.setRow], fun k hk => by simp only [World.setRow, Array.getElem?_modify]; rw [if_neg (by omega)]⟩
/-- 'm' times 'v', then zeros, 'n' in all. -/
def repL (v : Int) (m n : Nat) : List Int := List.replicate m v ++ List.replicate (n - m) 0
theorem repL_len (v : Int) (m n : Nat) (h : m ≤ n) : (repL v m n).length = n := by simp [repL]; omega
theorem repL_nth (v : Int) (m n j : Nat) (h : j < m) : nth (repL v m n) j = v := by
  unfold repL nth
  simp [List.getElem?_append_left, h]
theorem repL_none (v : Int) (n : Nat) : repL v 0 n = List.replicate n 0 := by simp [repL]
theorem repL_all (v : Int) (n : Nat) : repL v n n = List.replicate n v := by simp [repL]
theorem splice_rep (v : Int) (m q n : Nat) (h : m + q ≤ n) : splice (repL v m n) m (List.replicate q v) = repL v (m + q) n := by
  unfold splice repL
  rw [List.take_left' (by simp), List.length_replicate, List.drop_append, List.drop_replicate, List.length_replicate, List.drop_replicate, ← List.append_assoc, List.replicate_append_replicate]
  rw [show m - (m + q) = 0 by omega, show n - m - (m + q - m) = n - (m + q) by omega]
  simp

set_option maxHeartbeats 400000 in
set_option maxRecDepth 8000 in
theorem repeat_one (g n : Nat) (v : Int) (w : World) (hn : n ≤ 256) (hv : (Lit.int .i64 v).wf = true) (hg : g < w.heap.size) (hc : w.cell? ⟨g, 0, none⟩ = some (.int .i64 v)) :
    Calls Try.prog 32 #[.slice (some ⟨g, 0, none⟩) 1 1, .int .i64 n] w fun e w' => e = .returned (.slice (some ⟨w.heap.size, 0, none⟩) n n) ∧ Whole .i64 3 w' w.heap.size (List.replicate n v) ∧ Below w.heap.size w w' := by
  have hM : Calls Try.prog 53 #[.int .u64 1, .int .u64 n] w fun e w' => e = .returned (.tuple #[.int .u64 0, .int .u64 n]) ∧ w = w' := by
    have h := Try.bits_Mul 1 n (by omega) (by omega) w
    rw [show 1 * n / 18446744073709551616 = 0 by omega, show 1 * n % 18446744073709551616 = n by omega] at h
    exact h.mono fun _ _ ⟨a, b⟩ => ⟨a, b.symm⟩
  have HM := Lib.hid hM
  have hmk := fun wx => run_make_row' (P := Try.prog) 45 3 (.int .i64 0) 8 Try.underlying45 intI_info rfl .i64 .i64 n (by omega) (by omega) wx
  have one : (Try.prog.info? 3).map (·.size) = some 1 := by kernel_rfl
  have HONE := Lib.hid one
  have hb1 : Below w.heap.size w (w.alloc (.cells (madeCells #[Value.int .i64 0] n) 3)) := (Below.refl _ _).alloc (Nat.le_refl _) _
  have hW1 : Whole .i64 3 (w.alloc (.cells (madeCells #[Value.int .i64 0] n) 3)) w.heap.size (List.replicate n 0) := by
    rw [made_replicate]
    exact whole_new .i64 3 w _ (fun z hz => by rw [List.eq_of_mem_replicate hz]; rfl)
  have e1 : IntKind.u64.wrap (n : Int) = n := by
    rw [show (n : Int) = ((n : Nat) : Int) from rfl]
    exact IntWalk.u64_in _ (by omega)
  have e2 : IntKind.i64.wrap (n : Int) = n := IntWalk.i64_in _ (by omega)
  have HV := Lib.hid hv
  obtain ⟨m0, hm0, hm0n⟩ : ∃ m0, Nat.min 1 n = m0 ∧ m0 ≤ n := ⟨_, rfl, Nat.min_le_right _ _⟩
  have ha1 : Arr .i64 (w.alloc (.cells (madeCells #[Value.int .i64 0] n) 3)) w.heap.size (some ⟨g, 0, none⟩) m0 (List.replicate m0 v) := by
    refine ⟨by simp, fun z hz => by rw [List.eq_of_mem_replicate hz]; exact hv, fun h0 => ⟨g, 0, rfl, hg, fun j hj => ?_⟩⟩
    obtain rfl : j = 0 := by have h1 : m0 ≤ 1 := hm0 ▸ Nat.min_le_left 1 n; omega
    rw [hb1.cell (p := ⟨g, 0 + 0, none⟩) hg]
    show w.cell? ⟨g, 0, none⟩ = _
    rw [hc, nth_get _ _ (by simpa using h0)]
    simp
  have hcp := run_copy_ints2 (P := Try.prog) (sT := 45) (ty := 3) (dc := n) (sc := 1) (dn := n) (sn := 1) (dp := some ⟨w.heap.size, 0, none⟩) (off := 0) Try.underlying45 one hW1 ha1 hm0 (fun _ => rfl) (by simpa using hm0n)
  have hsp := splice_rep v 0 m0 n (by omega)
  rw [repL_none, Nat.zero_add] at hsp
  rw [hsp] at hcp
  have hwf : ∀ m, ∀ z ∈ repL v m n, (Lit.int .i64 z).wf = true := by
    intro m z hz
    unfold repL at hz
    rcases List.mem_append.1 hz with h | h
    · rw [(List.mem_replicate.1 h).2]; exact hv
    · rw [(List.mem_replicate.1 h).2]; decide
  have HWF := Lib.hid hwf
  have HW2 := Lib.hid (hW1.setRow (ys := repL v m0 n) (hwf m0))
  have HB2 := Lib.hid (below_setRowI hb1 (Nat.le_refl _) ((repL v m0 n).map (Value.int .i64)).toArray)
  have HM0 : Hid (0 < n → 0 < m0) := fun h => by
    rw [← hm0]; exact Nat.lt_min.2 ⟨Nat.one_pos, h⟩
  have HM0n := Lib.hid hm0n
  clear hM hb1 hW1 ha1 hsp hwf hm0 hv hc one hm0n
  go_enter Try.func32, Try.ntmps32
  go_wp2_with fail
  refine HM.out.mono ?_
  rintro e w1 ⟨rfl, rfl⟩
  go_wp2_with fail
  go_loopw [8] (fun i wr => ∃ m : Nat, m ≤ n ∧ (0 < n → 0 < m) ∧ i = .int .i64 m ∧ Hid (Whole .i64 3 wr w.heap.size (repL v m n)) ∧ Hid (Below w.heap.size w wr)) (fun i _ => n - (intOf i).toNat)
  case atStart => exact ⟨m0, HM0n.out, HM0.out, rfl, HW2, HB2⟩
  case round =>
    obtain ⟨m, hm, hmp, rfl, HW, HB⟩ := hrel
    by_cases hlt : m < n
    · obtain ⟨D, hs1, hD⟩ := run_from (P := Try.prog) Try.underlying45 HONE.out (some ⟨w.heap.size, 0, none⟩) n n m m rfl hm (Nat.le_refl _)
      obtain ⟨E, hs2, hE⟩ := run_upto (P := Try.prog) Try.underlying45 HONE.out (some ⟨w.heap.size, 0, none⟩) n n m m rfl hm
      obtain ⟨r, hr⟩ : ∃ r, n - m = r := ⟨_, rfl⟩
      obtain ⟨q, hq, hq1, hq2, hq3⟩ : ∃ q, Nat.min m r = q ∧ q ≤ m ∧ q ≤ r ∧ 0 < q := ⟨_, rfl, Nat.min_le_left _ _, Nat.min_le_right _ _, Nat.lt_min.2 ⟨hmp (by omega), by omega⟩⟩
      rw [hr] at hs1 hD
      have ha : Arr .i64 wr (w.heap.size + 1) E q (List.replicate q v) := by
        refine ⟨by simp, fun z hz => by rw [List.eq_of_mem_replicate hz]; exact HV.out, fun h0 => ⟨w.heap.size, 0, hE _ _ rfl, by omega, fun j hj => ?_⟩⟩
        rw [Nat.zero_add, HW.out.cell (by rw [repL_len _ _ _ hm]; omega), repL_nth _ _ _ _ (by omega), nth_get _ _ (by simp; omega)]
        simp
      have hcp2 := fun nq => run_copy_ints2 (P := Try.prog) (sT := 45) (ty := 3) (dc := r) (sc := n) (dn := r) (sn := m) (dp := D) (off := m) (w := wr.drewN nq) Try.underlying45 HONE.out HW.out (ha.drewN nq) hq (fun _ => by simpa using hD _ _ rfl (by omega)) (by rw [repL_len _ _ _ hm]; omega)
      rw [splice_rep v m q n (by omega)] at hcp2
      have HW3 := Lib.hid (HW.out.setRow (ys := repL v (m + q) n) (HWF.out (m + q)))
      have HB3 := Lib.hid (below_setRowI HB.out (Nat.le_refl _) ((repL v (m + q) n).map (Value.int .i64)).toArray)
      have e3 : IntKind.i64.wrap ((m : Int) + q) = m + q := IntWalk.i64_in _ (by omega)
      generalize hys : repL v (m + q) n = ys at *
      have HY := Lib.hid hys
      have HQ : Hid (m + q ≤ n ∧ 0 < q ∧ m < n) := ⟨by omega, hq3, hlt⟩
      clear hys hD hE ha hq hq1 hq2 hr hcp hmk hq3 HW2 HB2 HW
      go_wp2_with fail
      have hcp3 : Sem.run Try.prog (Builtin.copy_ #[45, 45] 3 #[.slice D r r, .slice E m n]) wr.drew = _ := hcp2 1
      clear hcp2
      go_region_held3 (fun _ => True) (trivial) (fail)
      go_wp2
      go_roundw
      case rel =>
        refine ⟨m + q, HQ.out.1, fun _ => by have := HQ.out; omega, by go_num, ?_, below_drewN HB3.out 1⟩
        rw [HY.out]
        exact HW3.out
      case measure => have := HQ.out; simp [intOf]; omega
    · obtain rfl : m = n := by omega
      go_wp2
      go_ret
      exact ⟨rfl, by have := HW.out; rwa [repL_all] at this, HB.out⟩
end Go.Proofs.Ytdieokpfkojoiaa
