/-
  Parts of the proof of CarrySlides: LayParts.
-/
import Derived.Lib.AppendZeros
import Derived.Lib.SliceRun
import Derived.Test.YtjefbekdjgmmbaaCarrySlidesAh
namespace Go.Proofs.Ytjefbekdjgmmbaa
open Go.RowKit
/-- The free object that is added. -/
def restObs (k : Nat) : List Ob := if k = 0 then [] else [(0, [], List.replicate (k - 1) 0, true)]
/-- A slice of descriptions that reads as 'os'. -/
def ObsAt (w : World) (lo hi : Nat) (A : Option Addr) (n : Nat) (raws : List Raw) (os : List Ob) : Prop := os.length = n ∧ ArrG rawC 4 w hi A n raws ∧ ∀ j, j < n → ObV w lo hi (nthG raws j) (nthG os j)
theorem objI : (Try.prog.info? 41).map (fun i => (i.zero, i.size, i.bytes)) = some (some (.agg #[.int .i64 0, .slice none 0 0, .slice none 0 0, .bool false]), 4, 64) := by kernel_rfl
set_option maxRecDepth 8000 in
set_option maxHeartbeats 1000000 in
theorem rest_any (k : Nat) (w : World) (hk : k ≤ 256) :
    Calls Try.prog 76 #[.int .i64 k] w fun e w' => ∃ A c raws, e = .returned (.slice A (restObs k).length c) ∧ Below w.heap.size w w' ∧ (restObs k).length ≤ c ∧ ObsAt w' w.heap.size w'.heap.size A (restObs k).length raws (restObs k) := by
  rcases Nat.eq_zero_or_pos k with h0 | h0
  · subst h0
    go_enter Try.func76, Try.ntmps76
    go_wp2
    go_ret
    exact ⟨none, 0, [], rfl, Below.refl _ _, Nat.le_refl _, rfl, ArrG.zero, fun j hj => absurd hj (by simp [restObs])⟩
  · obtain ⟨q, rfl⟩ : ∃ q, k = q + 1 := ⟨k - 1, by omega⟩
    have hr : restObs (q + 1) = [(0, [], List.replicate q 0, true)] := by simp [restObs]
    rw [hr]
    have hmk := fun wx => run_make_row' (P := Try.prog) 22 47 (.int .u64 0) 8 Try.underlying22 u64_info rfl .i64 .i64 q (by omega) (by omega) wx
    rw [made_replicate] at hmk
    have hW := whole_new .u64 47 w (List.replicate q 0) (fun z hz => by rw [(List.mem_replicate.1 hz).2]; decide)
    have hn := one_raw (w.alloc (.cells ((List.replicate q (0 : Int)).map (Value.int .u64)).toArray 47)) 41 ⟨0, none, 0, 0, some ⟨w.heap.size, 0, none⟩, q, q, true⟩
    simp only at hn
    have b1 := (Below.refl _ w).alloc (Nat.le_refl _) (.cells ((List.replicate q (0 : Int)).map (Value.int .u64)).toArray 47)
    have z1 : (w.alloc (.cells ((List.replicate q (0 : Int)).map (Value.int .u64)).toArray 47)).heap.size = w.heap.size + 1 := by simp
    rw [z1] at hn
    have hW2 := hW.alloc (.cells #[.int .i64 0, .slice none 0 0, .slice (some ⟨w.heap.size, 0, none⟩) q q, .bool true] 41)
    have b2 := b1.alloc (by simp) (.cells #[.int .i64 0, .slice none 0 0, .slice (some ⟨w.heap.size, 0, none⟩) q q, .bool true] 41)
    have HN := Lib.hid hn
    have HW := Lib.hid hW2
    have HB := Lib.hid b2
    have z2 : ((w.alloc (.cells ((List.replicate q (0 : Int)).map (Value.int .u64)).toArray 47)).alloc (.cells #[.int .i64 0, .slice none 0 0, .slice (some ⟨w.heap.size, 0, none⟩) q q, .bool true] 41)).heap.size = w.heap.size + 1 + 1 := by simp
    have Z2 := Lib.hid z2
    clear hn hW hW2 b1 b2 z1 z2
    obtain ⟨ar, har⟩ : ∃ ar, ((List.replicate q (0 : Int)).map (Value.int .u64)).toArray = ar := ⟨_, rfl⟩
    rw [har] at hmk HN HW HB Z2
    clear har
    have e1 : ((q + 1 : Nat) : Int) - 1 = q := by omega
    have e2 : (((q + 1 : Nat) : Int) == 0) = false := by simp; omega
    have e3 : IntKind.i64.wrap (((q + 1 : Nat) : Int) - 1) = q := by rw [e1]; exact IntWalk.i64_in _ (by omega)
    go_enter Try.func76, Try.ntmps76
    generalize hq : ((q + 1 : Nat) : Int) = Q at *
    go_wp2
    go_ret
    refine ⟨some ⟨w.heap.size + 1, 0, none⟩, 1, [⟨0, none, 0, 0, some ⟨w.heap.size, 0, none⟩, q, q, true⟩], rfl, HB.out, Nat.le_refl _, rfl, by rw [Z2.out]; exact HN.out, fun j hj => ?_⟩
    obtain rfl : j = 0 := by simpa using hj
    rw [Z2.out]
    have ha := HW.out.arr (B := w.heap.size + 1 + 1) (by omega)
    rw [List.length_replicate] at ha
    exact ⟨rfl, rfl, Nat.le_refl _, Nat.le_refl _, Arr.zero, High.zero, ha, fun b off _ hA => by injection hA with hA; injection hA with hA; omega⟩
/-- An append of other operands than two slices of one type, whose run is known. -/
theorem wpList_append_run2 {P : Program} {w : World} {ops : Array Oper} {rest : List Oper} {o : Oper} {a : Act} {Q : Exit → Act → World → Prop} (hgd : o.guard = none) (s x : Operand) (t t2 : TypeId)
    (ho : o.op = .call { callee := .builtin .append, args := #[s, x], argTypes := #[t, t2] }) {v src v' : Value} {w' : World} (hs : a.eval s = v) (hx : a.eval x = src)
    (hrun : Sem.run P (Builtin.append_ #[t, t2] o.type #[v, src]) w = .ok v' w') (h : wpList P ops Q rest (a.put o.dst v') w') : wpList P ops Q (o :: rest) a w := by
  refine wpList_plain hgd fun K hK => ?_
  unfold Oper.wp execOp
  simp only [ho, resolve, invoke, builtin, Sem.run_bind, Sem.run_pure, Result.andThen_ok, List.map_toArray, List.map_cons, List.map_nil, hs, hx, hrun]
  exact hK _ _ h
set_option maxRecDepth 8000 in
set_option maxHeartbeats 1000000 in
theorem grow_nil (k : Nat) (w : World) (hk : k ≤ 1000) :
    Calls Try.prog 103 #[.slice none 0 0, .int .i64 k] w fun e w' => ∃ v, e = .returned v ∧ OwnG rawC 4 41 w' w.heap.size v [] ∧ Below w.heap.size w w' := by
  rcases Nat.eq_zero_or_pos k with h0 | h0
  · subst h0
    go_enter Try.func103, Try.ntmps103
    go_wp2
    go_ret
    exact ⟨_, rfl, OwnG.nil, Below.refl _ _⟩
  · obtain ⟨i, hi, hz, hs, hby⟩ := info_parts objI
    have hrun := Lib.run_append_nil_zeros (P := Try.prog) w 24 3 24 41 i _ .i64 .i64 Try.underlying24 Try.underlying3 hi hz k h0 (by rw [hs]; omega) (by omega) (by rw [hby]; omega)
    have HR := Lib.hid hrun
    have hge := grownCap_ge w k 0 41
    have hle := grownCap_le_maxLen w k 0 41 (by unfold maxLen; omega)
    obtain ⟨cp, hcp⟩ : ∃ cp, grownCap w k 0 41 = cp := ⟨_, rfl⟩
    rw [hcp] at HR hge hle
    obtain ⟨cs, hcs⟩ : ∃ cs, (Builtin.zeroCells (Value.agg #[.int .i64 0, .slice none 0 0, .slice none 0 0, .bool false]).cells k ++ Builtin.zeroCells (Value.agg #[.int .i64 0, .slice none 0 0, .slice none 0 0, .bool false]).cells (cp - k)) = cs := ⟨_, rfl⟩
    have hsz : cs.size = cp * 4 := by
      rw [← hcs]
      simp [Builtin.zeroCells, Value.cells]
      omega
    rw [hcs] at HR
    have hO : OwnG rawC 4 41 (w.drew.alloc (.cells cs 41)) w.heap.size (.slice (some ⟨w.heap.size, 0, none⟩) 0 cp) [] :=
      ⟨by simp, .inr ⟨w.heap.size, cp, cs, rfl, Nat.le_refl _, heap_alloc_new w.drew _, Nat.zero_le _, hle, hsz, by simp⟩⟩
    have HO := Lib.hid hO
    have HB : Hid (Below w.heap.size w (w.drew.alloc (.cells cs 41))) := Lib.hid ((below_drewN (Below.refl _ w) 1).alloc (Nat.le_refl _) _)
    have hcp0 : ¬ cp = 0 := by omega
    clear hrun hO hge hle hsz hcs hcp hi hz hs hby
    unfold maxLen at *
    have k1 : ¬ ((k : Int) < 0) := by omega
    have k2 : (0 : Int) < k := by omega
    go_enter Try.func103, Try.ntmps103
    go_wp2_with (at_builtin; refine wpList_append_run2 rfl (.tmp 20) (.tmp 21) 24 3 rfl rfl rfl HR.out ?_)
    go_ret
    exact ⟨_, rfl, HO.out, HB.out⟩
set_option maxRecDepth 8000 in
set_option maxHeartbeats 2000000 in
theorem concat_any (A1 A2 : Option Addr) (n1 n2 c1 c2 g B : Nat) (l1 l2 : List Raw) (w : World) (h1 : n1 ≤ 256) (h2 : n2 ≤ 256) (hB : B ≤ w.heap.size) (ha1 : ArrG rawC 4 w B A1 n1 l1) (ha2 : ArrG rawC 4 w B A2 n2 l2) (hb : Box w g 24 #[.slice A1 n1 c1, .slice A2 n2 c2]) :
    Calls Try.prog 75 #[.slice (some ⟨g, 0, none⟩) 2 2] w fun e w' => ∃ v, e = .returned v ∧ OwnG rawC 4 41 w' w.heap.size v (l1 ++ l2) ∧ Below w.heap.size w w' := by
  have HA1 := Lib.hid ha1
  have HA2 := Lib.hid ha2
  have HB := Lib.hid hb
  have d0 : w.cell? ⟨g, 0, none⟩ = some (.slice A1 n1 c1) := hb.cell 0
  have d1 : w.cell? ⟨g, 1, none⟩ = some (.slice A2 n2 c2) := hb.cell 1
  have hl1 := ha1.1
  have hl2 := ha2.1
  clear ha1 ha2 hb
  go_enter Try.func75, Try.ntmps75
  go_wp2_with fail
  go_loopw [3, 11] (fun s i wr => w = wr ∧ ((i = .int .i64 0 ∧ s = .int .i64 0) ∨ (i = .int .i64 1 ∧ s = .int .i64 n1) ∨ (i = .int .i64 2 ∧ s = .int .i64 ((n1 + n2 : Nat) : Int)))) (fun _ i _ => 2 - (intOf i).toNat)
  case atStart => exact ⟨rfl, .inl ⟨rfl, rfl⟩⟩
  case round =>
    obtain ⟨rfl, ⟨rfl, rfl⟩ | ⟨rfl, rfl⟩ | ⟨rfl, rfl⟩⟩ := hrel
    · go_wp2
      go_roundw
      case rel => exact ⟨by trivial, .inr (.inl ⟨rfl, by go_num⟩)⟩
      case measure => simp [intOf]
    · go_wp2
      go_roundw
      case rel => exact ⟨by trivial, .inr (.inr ⟨rfl, by go_num⟩)⟩
      case measure => simp [intOf]
    · have HG := Lib.hid (grow_nil (n1 + n2) w (by omega))
      go_wp2_with fail
      refine HG.out.mono ?_
      rintro e w1 ⟨v, rfl, hO, b1⟩
      have HO := Lib.hid hO
      have HB1 := Lib.hid b1
      clear hO b1 HG d0 d1
      go_wp2_with fail
      go_loopw [6, 27] (fun v i wr => Hid (Below w.heap.size w wr) ∧ ((i = .int .i64 0 ∧ Hid (OwnG rawC 4 41 wr w.heap.size v [])) ∨ (i = .int .i64 1 ∧ Hid (OwnG rawC 4 41 wr w.heap.size v l1)) ∨ (i = .int .i64 2 ∧ Hid (OwnG rawC 4 41 wr w.heap.size v (l1 ++ l2))))) (fun _ i _ => 2 - (intOf i).toNat)
      case atStart => exact ⟨HB1, .inl ⟨rfl, HO⟩⟩
      case round =>
        obtain ⟨hBw, ⟨rfl, hOw⟩ | ⟨rfl, hOw⟩ | ⟨rfl, hOw⟩⟩ := hrel
        · clear HO HB1
          have bx := HB.out.below hBw.out HB.out.lt
          have d0 : wr.cell? ⟨g, 0, none⟩ = some (.slice A1 n1 c1) := bx.cell 0
          obtain ⟨v', w4, hrun, hO', hG'⟩ := hOw.out.cat4 (P := Try.prog) (t := 24) (ty := 24) (c := c1) Try.underlying24 objI rfl (by omega) (HA1.out.below hBw.out hB) (by simp; omega) hBw.out.size
          have HR := Lib.hid hrun
          have HO' := Lib.hid hO'
          have HB' := Lib.hid (hBw.out.trans (hG'.below hBw.out.size hOw.out.row))
          clear hrun hO' hG' bx hOw
          go_wp2_with (at_builtin; refine wpList_append_run rfl (.tmp 31) (.tmp 32) 24 rfl rfl rfl HR.out ?_)
          go_roundw
          case rel => exact ⟨HB', .inr (.inl ⟨rfl, HO'⟩)⟩
          case measure => simp [intOf]
        · clear HO HB1
          have bx := HB.out.below hBw.out HB.out.lt
          have d1 : wr.cell? ⟨g, 1, none⟩ = some (.slice A2 n2 c2) := bx.cell 1
          obtain ⟨v', w4, hrun, hO', hG'⟩ := hOw.out.cat4 (P := Try.prog) (t := 24) (ty := 24) (c := c2) Try.underlying24 objI rfl (by omega) (HA2.out.below hBw.out hB) (by omega) hBw.out.size
          have HR := Lib.hid hrun
          have HO' := Lib.hid hO'
          have HB' := Lib.hid (hBw.out.trans (hG'.below hBw.out.size hOw.out.row))
          clear hrun hO' hG' bx hOw
          go_wp2_with (at_builtin; refine wpList_append_run rfl (.tmp 31) (.tmp 32) 24 rfl rfl rfl HR.out ?_)
          go_roundw
          case rel => exact ⟨HB', .inr (.inr ⟨rfl, HO'⟩)⟩
          case measure => simp [intOf]
        · go_wp2
          go_ret
          exact ⟨_, rfl, hOw.out, hBw.out⟩
end Go.Proofs.Ytjefbekdjgmmbaa
