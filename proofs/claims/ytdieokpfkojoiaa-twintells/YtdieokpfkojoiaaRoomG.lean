/-
  Slices of rooms: cuts, appends; contracts of slices.IndexFunc, ContainsFunc, Equal, Grow and Concat at []api.Room.
-/
import Derived.Test.YtdieokpfkojoiaaTwinM
import Derived.Test.YtdieokpfkojoiaaRunFn2
import Derived.Test.YtdieokpfkojoiaaWalkB
import Derived.Lib.AppendZeros
import Derived.Lib.SliceRun
namespace Go.Proofs.Ytdieokpfkojoiaa
open Go.RowKit

theorem ArrG.room {w : World} {B n : Nat} {A : Option Addr} {l : List Room} (h : ArrG roomC 3 w B A n l) {j : Nat} (hj : j < n) :
    ∃ b off, A = some ⟨b, off, none⟩ ∧ b < B ∧ w.cell? ⟨b, off + j * 3, none⟩ = some (.int .i64 (nthG l j).1) ∧ w.cell? ⟨b, off + j * 3 + 1, none⟩ = some (.int .i64 (nthG l j).2.1) ∧ w.cell? ⟨b, off + j * 3 + 2, none⟩ = some (.int .i64 (nthG l j).2.2) := by
  obtain ⟨b, off, e, hb, hc⟩ := h.at_ hj
  exact ⟨b, off, e, hb, hc 0 (by omega), hc 1 (by omega), hc 2 (by omega)⟩
/-- 'x[p:]' of a slice of structs. -/
theorem run_fromG {P : Program} {t e : TypeId} {sz : Nat} (ht : P.underlying t = some (.slice e)) (hs : (P.info? e).map (·.size) = some sz) (A : Option Addr) (len cap p : Nat) (l : Int) (hl : l = p) (hp : p ≤ len) (hc : len ≤ cap) :
    ∃ D, (∀ wx, Sem.run P (Instr.slice t (.slice A len cap) (some (.int .i64 l)) none none) wx = .ok (.slice D (len - p) (cap - p)) wx) ∧ ∀ b off, A = some ⟨b, off, none⟩ → 0 < len - p → D = some ⟨b, off + p * sz, none⟩ := by
  have he : P.elem t = e := by simp [Program.elem, ht]
  have ht' : P.underlying t = some (.slice (P.elem t)) := by rw [he]; exact ht
  refine ⟨if cap = p then A else A.map (·.add (p * sz)), fun wx => ?_, fun b off hA hq0 => ?_⟩
  · rw [run_slice_l wx t A len cap ht' .i64 l (by omega) (by omega)]
    cases hi : P.info? e with
    | none => simp [hi] at hs
    | some i =>
      have h1 : i.size = sz := by simpa [hi] using hs
      have e1 : l.toNat = p := by omega
      simp [he, sizeOf, typeInfo, hi, h1, sliced, e1]
  · subst hA
    rw [if_neg (by omega)]
    simp only [Option.map_some]
    congr 1
    unfold Addr.add
    split <;> simp_all
/-- 'x[:q]' of a slice of structs. -/
theorem run_uptoG {P : Program} {t e : TypeId} {sz : Nat} (ht : P.underlying t = some (.slice e)) (hs : (P.info? e).map (·.size) = some sz) (A : Option Addr) (len cap q : Nat) (h : Int) (hh : h = q) (hc : q ≤ cap) :
    ∃ D, (∀ wx, Sem.run P (Instr.slice t (.slice A len cap) none (some (.int .i64 h)) none) wx = .ok (.slice D q cap) wx) ∧ ∀ b off, A = some ⟨b, off, none⟩ → D = some ⟨b, off, none⟩ := by
  have he : P.elem t = e := by simp [Program.elem, ht]
  have ht' : P.underlying t = some (.slice (P.elem t)) := by rw [he]; exact ht
  refine ⟨if cap = 0 then A else A.map (·.add 0), fun wx => ?_, fun b off hA => ?_⟩
  · rw [run_slice_h wx t A len cap ht' .i64 h (by omega) (by omega)]
    cases hi : P.info? e with
    | none => simp [hi] at hs
    | some i =>
      have h1 : i.size = sz := by simpa [hi] using hs
      have e1 : h.toNat = q := by omega
      simp [he, sizeOf, typeInfo, hi, h1, sliced, e1]
  · subst hA
    split
    · rfl
    · simp [Addr.add]
theorem ArrG.cutG {α : Type} [Inhabited α] {enc : α → List Value} {size : Nat} {w : World} {B n : Nat} {A D : Option Addr} {l : List α} (h : ArrG enc size w B A n l) {p q : Nat} (hpq : p + q ≤ n) (hD : ∀ b off, A = some ⟨b, off, none⟩ → 0 < q → D = some ⟨b, off + p * size, none⟩) : ArrG enc size w B D q ((l.drop p).take q) := by
  obtain ⟨hl, hc⟩ := h
  refine ⟨by simp; omega, fun hq => ?_⟩
  obtain ⟨b, off, rfl, hb, hcell⟩ := hc (by omega)
  refine ⟨b, off + p * size, hD b off rfl hq, hb, fun j hj i hi => ?_⟩
  have := hcell (p + j) (by omega) i hi
  rw [Nat.add_mul] at this
  rw [show off + p * size + j * size + i = off + (p * size + j * size) + i by omega, this]
  congr 2
  rw [nthG_get _ _ (by omega), nthG_get _ _ (by simp; omega)]
  simp
/-- 'append(v, src...)' of structs. -/
theorem OwnG.cat {α : Type} [Inhabited α] {enc : α → List Value} {size : Nat} (hs : ∀ a, (enc a).length = size) (h1 : ∀ a, ∀ u ∈ enc a, u.oneCell' = true) (hsz : 0 < size) {P : Program} {t ty e : TypeId} {w : World} {base : Nat} {v : Value} {l l' : List α} (h : OwnG enc size e w base v l) (ht : P.underlying t = some (.slice e)) {z : Value} {bytes : Nat}
    (hinfo : (P.info? e).map (fun i => (i.zero, i.size, i.bytes)) = some (some z, size, bytes)) (hz : z.cells.size = size) (hb : bytes ≤ 1000) {A : Option Addr} {m c B : Nat} (ha : ArrG enc size w B A m l') (hn : l.length + m ≤ 1000000) (hbase : base ≤ w.heap.size) :
    ∃ v' w', Sem.run P (Builtin.append_ #[t, t] ty #[v, .slice A m c]) w = .ok v' w' ∧ OwnG enc size e w' base v' (l ++ l') ∧ Below base w w' := by
  obtain ⟨i, hi, hz', hs', hby⟩ := info_parts hinfo
  rcases A with _ | ad
  · have hm : m = 0 := ha.none_len
    subst hm
    have hy : l' = [] := List.eq_nil_of_length_eq_zero ha.1
    subst hy
    refine ⟨v, w, ?_, by simpa using h, Below.refl _ _⟩
    rcases h.2 with ⟨rfl, h0⟩ | ⟨g, cap, cur, rfl, _, _, hnc, _⟩
    · simp [Builtin.append_, run_underlying ht, sizeOf, typeInfo, hi, Builtin.lenOf, Builtin.firstCells]
    · simp [Builtin.append_, run_underlying ht, sizeOf, typeInfo, hi, Builtin.lenOf, Builtin.firstCells, hnc, storeCells]
  · have hl' := ha.1
    have hcell : ∀ j u, (l'.flatMap enc)[j]? = some u → w.cell? (ad.add j) = some u := by
      intro j u hj
      have hjl : j < l'.length * size := by
        have := (List.getElem?_eq_some_iff.1 hj).1
        rwa [flat_length hs] at this
      have h0 : 0 < m := by
        rcases Nat.eq_zero_or_pos l'.length with h | h
        · rw [h, Nat.zero_mul] at hjl; omega
        · omega
      obtain ⟨b, off, h1, _, hc⟩ := ha.2 h0
      injection h1 with h1
      subst h1
      have e1 : (⟨b, off, none⟩ : Addr).add j = ⟨b, off + j, none⟩ := by unfold Addr.add; split <;> simp_all
      have d1 : j / size < l'.length := Nat.div_lt_of_lt_mul (by rw [Nat.mul_comm]; exact hjl)
      have d2 : j % size < size := Nat.mod_lt _ hsz
      have d3 : j / size * size + j % size = j := Nat.div_add_mod' j size
      have h2 := hc (j / size) (by omega) (j % size) d2
      have h3 := flat_at hs l' (j / size) (j % size) d1 d2
      rw [d3] at h3
      rw [Nat.add_assoc, d3] at h2
      rw [e1, h2, ← h3, hj]
    obtain ⟨v', w', hrun, hown, hg, _, _⟩ := run_append_own_at (P := P) w base t ty e i z size bytes ht hi hz' hs' hby hz hsz v l.length (l.flatMap enc) h
      ad m c (l'.flatMap enc) (by rw [flat_length hs, hl']) hcell (fun u hu => by
        obtain ⟨a, _, ha⟩ := List.mem_flatMap.1 hu
        exact h1 a u ha) (by unfold maxLen; omega) (by
        calc (l.length + m) * bytes ≤ 1000000 * 1000 := Nat.mul_le_mul hn hb
          _ ≤ 140737488355328 := by omega) hbase
    refine ⟨v', w', hrun, ?_, (Below.refl base w).grown hg hbase h.row⟩
    unfold OwnG
    rw [List.flatMap_append, List.length_append, hl']
    exact hown
/-- A slice of one element that is laid anew. -/
theorem one_run (w : World) (t : TypeId) (r : Int × Int) : OwnG runC 2 t (w.alloc (.cells #[.int .i64 r.1, .int .i64 r.2] t)) w.heap.size (.slice (some ⟨w.heap.size, 0, none⟩) 1 1) [r] :=
  ⟨rfl, .inr ⟨w.heap.size, 1, #[.int .i64 r.1, .int .i64 r.2], rfl, Nat.le_refl _, Box.new w t _, Nat.le_refl _, by unfold maxLen; omega, rfl, rfl⟩⟩
theorem one_room (w : World) (t : TypeId) (r : Room) : ArrG roomC 3 (w.alloc (.cells #[.int .i64 r.1, .int .i64 r.2.1, .int .i64 r.2.2] t)) (w.heap.size + 1) (some ⟨w.heap.size, 0, none⟩) 1 [r] := by
  refine ⟨rfl, fun _ => ⟨w.heap.size, 0, rfl, by omega, fun j hj i hi => ?_⟩⟩
  have : j = 0 := by omega
  subst this
  have hb := Box.new w t #[.int .i64 r.1, .int .i64 r.2.1, .int .i64 r.2.2]
  rw [Nat.zero_mul, Nat.zero_add, hb.cell i]
  have h1 : nthG [r] 0 = r := rfl
  rw [h1]
  have : i = 0 ∨ i = 1 ∨ i = 2 := by omega
  rcases this with rfl | rfl | rfl <;> rfl

set_option maxHeartbeats 400000 in
theorem indexRoom (A : Option Addr) (n c B fid : Nat) (caps : Array Value) (l : List Room) (f : Nat → Bool) (w : World) (hn : n ≤ maxLen) (hB0 : B ≤ w.heap.size) (hx : ArrG roomC 3 w B A n l) (hcall : ∀ args wx, Sem.run Try.prog (callFunc fid args) wx = .ok (.enter fid args) wx)
    (hF : ∀ wx, Below w.heap.size w wx → ∀ j, j < n → Calls Try.prog fid (#[.agg #[.int .i64 (nthG l j).1, .int .i64 (nthG l j).2.1, .int .i64 (nthG l j).2.2]] ++ caps) wx (fun e w' => e = .returned (.bool (f j)) ∧ Below wx.heap.size wx w')) :
    Calls Try.prog 37 #[.slice A n c, .func (.func fid) #[] caps] w (FoundAt n f w) := by
  unfold maxLen at hn
  have HF := Lib.hid hF
  clear hF
  go_enter Try.func37, Try.ntmps37
  go_wp2
  go_loopw [8] (fun i wr => ∃ k : Nat, k ≤ n ∧ i = .int .i64 k ∧ Hid (∀ j, j < k → f j = false) ∧ Below w.heap.size w wr) (fun i _ => n - (intOf i).toNat)
  case atStart => exact ⟨0, Nat.zero_le _, rfl, (fun j hj => absurd hj (by omega)), Below.refl _ _⟩
  case round =>
    obtain ⟨k, hk, rfl, HE, hB⟩ := hrel
    by_cases hlt : k < n
    · obtain ⟨b, off, rfl, hbB, hc0, hc1, hc2⟩ := (hx.below hB hB0).room hlt
      have hC := HF.out wr hB k hlt
      have HC := Lib.hid hC
      have HB := Lib.hid hB
      clear hC hB hx
      generalize (nthG l k).1 = X at *
      generalize (nthG l k).2.1 = Y at *
      generalize (nthG l k).2.2 = Z at *
      cases hf : f k
      · rw [hf] at HC
        have Hf := Lib.hid hf
        clear hf
        go_wp2_with fail
        refine HC.out.mono ?_
        rintro e w1 ⟨rfl, hb1⟩
        have HB1 := Lib.hid (HB.out.trans (hb1.mono HB.out.size))
        clear hb1
        go_wp2
        go_roundw
        case rel =>
          refine ⟨k + 1, by omega, by go_num, fun j hj => ?_, HB1.out⟩
          rcases Nat.lt_succ_iff_lt_or_eq.1 hj with h | h
          · exact HE.out j h
          · rw [h]; exact Hf.out
        case measure => simp [intOf]; omega
      · rw [hf] at HC
        have Hf := Lib.hid hf
        clear hf
        go_wp2_with fail
        refine HC.out.mono ?_
        rintro e w1 ⟨rfl, hb1⟩
        have HB1 := Lib.hid (HB.out.trans (hb1.mono HB.out.size))
        clear hb1
        go_wp2
        go_ret
        exact ⟨_, rfl, HB1.out, .inl ⟨k, rfl, hlt, Hf.out, HE.out⟩⟩
    · obtain rfl : k = n := by omega
      have HB := Lib.hid hB
      clear hB hx
      go_wp2
      go_ret
      exact ⟨_, rfl, HB.out, .inr ⟨rfl, HE.out⟩⟩

set_option maxHeartbeats 400000 in
theorem containsRoom (A : Option Addr) (n c B fid : Nat) (caps : Array Value) (l : List Room) (f : Nat → Bool) (w : World) (hn : n ≤ maxLen) (hB0 : B ≤ w.heap.size) (hx : ArrG roomC 3 w B A n l) (hcall : ∀ args wx, Sem.run Try.prog (callFunc fid args) wx = .ok (.enter fid args) wx)
    (hF : ∀ wx, Below w.heap.size w wx → ∀ j, j < n → Calls Try.prog fid (#[.agg #[.int .i64 (nthG l j).1, .int .i64 (nthG l j).2.1, .int .i64 (nthG l j).2.2]] ++ caps) wx (fun e w' => e = .returned (.bool (f j)) ∧ Below wx.heap.size wx w')) :
    Calls Try.prog 57 #[.slice A n c, .func (.func fid) #[] caps] w fun e w' => e = .returned (.bool ((List.range n).any f)) ∧ Below w.heap.size w w' := by
  have HI := Lib.hid (indexRoom A n c B fid caps l f w hn hB0 hx hcall hF)
  clear hF hx hcall
  go_enter Try.func57, Try.ntmps57
  go_wp2_with fail
  refine HI.out.mono ?_
  rintro e w' ⟨r, rfl, hB, hr⟩
  have HB := Lib.hid hB
  have HR : Hid (decide (0 ≤ r) = (List.range n).any f) := by
    show _ = _
    rcases hr with ⟨k, rfl, hk, hf, _⟩ | ⟨rfl, h⟩
    · rw [any_true hk hf]; simp
    · rw [any_false h]; rfl
  clear hB hr HI
  go_wp2
  go_ret
  exact ⟨by rw [← HR.out]; rfl, HB.out⟩

theorem roomI : (Try.prog.info? 42).map (fun i => (i.zero, i.size, i.bytes)) = some (some (.agg #[.int .i64 0, .int .i64 0, .int .i64 0]), 3, 24) := by kernel_rfl
theorem roomS : (Try.prog.info? 42).map (·.size) = some 3 := by kernel_rfl

/-- An append of other operands than two slices of one type, whose run is known. -/
theorem wpList_append_runG {P : Program} {w : World} {ops : Array Oper} {rest : List Oper} {o : Oper} {a : Act} {Q : Exit → Act → World → Prop} (hgd : o.guard = none) (s x : Operand) (t t2 : TypeId)
    (ho : o.op = .call { callee := .builtin .append, args := #[s, x], argTypes := #[t, t2] }) {v src v' : Value} {w' : World} (hs : a.eval s = v) (hx : a.eval x = src)
    (hrun : Sem.run P (Builtin.append_ #[t, t2] o.type #[v, src]) w = .ok v' w') (h : wpList P ops Q rest (a.put o.dst v') w') : wpList P ops Q (o :: rest) a w := by
  refine wpList_plain hgd fun K hK => ?_
  unfold Oper.wp execOp
  simp only [ho, resolve, invoke, builtin, Sem.run_bind, Sem.run_pure, Result.andThen_ok, List.map_toArray, List.map_cons, List.map_nil, hs, hx, hrun]
  exact hK _ _ h

set_option maxRecDepth 8000 in
set_option maxHeartbeats 1000000 in
theorem growRooms (k : Nat) (w : World) (hk : k ≤ 1000) :
    Calls Try.prog 56 #[.slice none 0 0, .int .i64 k] w fun e w' => ∃ v, e = .returned v ∧ OwnG roomC 3 42 w' w.heap.size v [] ∧ Below w.heap.size w w' := by
  rcases Nat.eq_zero_or_pos k with h0 | h0
  · subst h0
    go_enter Try.func56, Try.ntmps56
    go_wp2
    go_ret
    exact ⟨_, rfl, OwnG.nil, Below.refl _ _⟩
  · obtain ⟨i, hi, hz, hs, hby⟩ := info_parts roomI
    have hrun := Lib.run_append_nil_zeros (P := Try.prog) w 22 3 22 42 i _ .i64 .i64 Try.underlying22 Try.underlying3 hi hz k h0 (by rw [hs]; omega) (by omega) (by rw [hby]; omega)
    have HR := Lib.hid hrun
    have hge := grownCap_ge w k 0 42
    have hle := grownCap_le_maxLen w k 0 42 (by unfold maxLen; omega)
    obtain ⟨cp, hcp⟩ : ∃ cp, grownCap w k 0 42 = cp := ⟨_, rfl⟩
    rw [hcp] at HR hge hle
    obtain ⟨cs, hcs⟩ : ∃ cs, (Builtin.zeroCells (Value.agg #[.int .i64 0, .int .i64 0, .int .i64 0]).cells k ++ Builtin.zeroCells (Value.agg #[.int .i64 0, .int .i64 0, .int .i64 0]).cells (cp - k)) = cs := ⟨_, rfl⟩
    have hsz : cs.size = cp * 3 := by
      rw [← hcs]
      simp [Builtin.zeroCells, Value.cells]
      omega
    rw [hcs] at HR
    have hO : OwnG roomC 3 42 (w.drew.alloc (.cells cs 42)) w.heap.size (.slice (some ⟨w.heap.size, 0, none⟩) 0 cp) [] :=
      ⟨by simp, .inr ⟨w.heap.size, cp, cs, rfl, Nat.le_refl _, heap_alloc_new w.drew _, Nat.zero_le _, hle, hsz, by simp⟩⟩
    have HO := Lib.hid hO
    have HB : Hid (Below w.heap.size w (w.drew.alloc (.cells cs 42))) := Lib.hid ((below_drewN (Below.refl _ w) 1).alloc (Nat.le_refl _) _)
    have hcp0 : ¬ cp = 0 := by omega
    clear hrun hO hge hle hsz hcs hcp hi hz hs hby
    unfold maxLen at *
    have k1 : ¬ ((k : Int) < 0) := by omega
    have k2 : (0 : Int) < k := by omega
    go_enter Try.func56, Try.ntmps56
    go_wp2_with (at_builtin; refine wpList_append_runG rfl (.tmp 20) (.tmp 21) 22 3 rfl rfl rfl HR.out ?_)
    go_ret
    exact ⟨_, rfl, HO.out, HB.out⟩

/-- The length of the first 'k' lists. -/
def lenTo (ls : Nat → List Room) : Nat → Nat
  | 0 => 0
  | k + 1 => lenTo ls k + (ls k).length
def catTo (ls : Nat → List Room) : Nat → List Room
  | 0 => []
  | k + 1 => catTo ls k ++ ls k
theorem catTo_len (ls : Nat → List Room) : ∀ k, (catTo ls k).length = lenTo ls k
  | 0 => rfl
  | k + 1 => by rw [catTo, lenTo, List.length_append, catTo_len ls k]
theorem lenTo_le (ls : Nat → List Room) {m : Nat} (h : ∀ j, j < m → (ls j).length ≤ 300) : ∀ k, k ≤ m → lenTo ls k ≤ k * 300
  | 0, _ => Nat.le_refl _
  | k + 1, hk => by
    have := lenTo_le ls h k (by omega)
    have := h k (by omega)
    rw [lenTo]; omega
/-- slices.Concat of up to three slices of rooms. -/
theorem concatRooms (As : Nat → Option Addr) (ns cs : Nat → Nat) (ls : Nat → List Room) (m mc g B : Nat) (w : World) (hm : m ≤ 3) (hns : ∀ j, j < m → ns j ≤ 300) (hB : B ≤ w.heap.size) (hg : g < w.heap.size) (ha : ∀ j, j < m → ArrG roomC 3 w B (As j) (ns j) (ls j)) (hb : ∀ j, j < m → w.cell? ⟨g, j, none⟩ = some (.slice (As j) (ns j) (cs j))) :
    Calls Try.prog 39 #[.slice (some ⟨g, 0, none⟩) m mc] w fun e w' => ∃ v, e = .returned v ∧ OwnG roomC 3 42 w' w.heap.size v (catTo ls m) ∧ Below w.heap.size w w' := by
  have HA := Lib.hid ha
  have HB := Lib.hid hb
  have HN := Lib.hid hns
  have hl : Hid (∀ j, j < m → (ls j).length = ns j) := fun j hj => (ha j hj).1
  have hle : Hid (∀ k, k ≤ m → lenTo ls k ≤ k * 300) := lenTo_le ls fun j hj => by rw [hl.out j hj]; exact HN.out j hj
  clear ha hb hns
  go_enter Try.func39, Try.ntmps39
  go_wp2_with fail
  go_loopw [3, 11] (fun s i wr => w = wr ∧ ∃ k : Nat, k ≤ m ∧ i = .int .i64 k ∧ s = .int .i64 (lenTo ls k)) (fun _ i _ => m - (intOf i).toNat)
  case atStart => exact ⟨rfl, 0, Nat.zero_le _, rfl, rfl⟩
  case round =>
    obtain ⟨rfl, k, hk, rfl, rfl⟩ := hrel
    by_cases hlt : k < m
    · have d0 := HB.out k hlt
      have HL := Lib.hid (show lenTo ls (k + 1) = lenTo ls k + ns k by rw [lenTo, hl.out k hlt])
      have l1 := hle.out k hk
      have l2 := HN.out k hlt
      generalize lenTo ls k = L at *
      generalize As k = A1 at *
      generalize ns k = n1 at *
      generalize cs k = c1 at *
      have l3 : ¬ ((L : Int) + (n1 : Int) < 0) := by omega
      go_wp2
      go_roundw
      case rel => exact ⟨by trivial, k + 1, by omega, by go_num, by rw [HL.out]; go_num⟩
      case measure => simp [intOf]; omega
    · obtain rfl : k = m := by omega
      have HG := Lib.hid (growRooms (lenTo ls k) w (by have := hle.out k hk; omega))
      generalize lenTo ls k = L at *
      go_wp2_with fail
      refine HG.out.mono ?_
      rintro e w1 ⟨v, rfl, hO, b1⟩
      have HO := Lib.hid hO
      have HB1 := Lib.hid b1
      clear hO b1 HG
      go_wp2_with fail
      go_loopw [6, 27] (fun v i wr => Hid (Below w.heap.size w wr) ∧ ∃ j : Nat, j ≤ k ∧ i = .int .i64 j ∧ Hid (OwnG roomC 3 42 wr w.heap.size v (catTo ls j))) (fun _ i _ => k - (intOf i).toNat)
      case atStart => exact ⟨HB1, 0, Nat.zero_le _, rfl, HO⟩
      case round =>
        obtain ⟨hBw, j, hj, rfl, hOw⟩ := hrel
        clear HO HB1
        by_cases hlj : j < k
        · have d0 := (hBw.out.cell (p := ⟨g, j, none⟩) hg).trans (HB.out j hlj)
          have l2 := HN.out j hlj
          have hcl := catTo_len ls j
          have l3 := hle.out j (by omega)
          obtain ⟨v', w4, hrun, hO', hG'⟩ := hOw.out.cat roomC_len roomC_one (by omega) (P := Try.prog) (t := 22) (ty := 22) (c := cs j) Try.underlying22 roomI rfl (by omega) ((HA.out j hlj).below hBw.out hB) (by omega) hBw.out.size
          have HR := Lib.hid hrun
          have HO' : Hid (OwnG roomC 3 42 w4 w.heap.size v' (catTo ls (j + 1))) := Lib.hid hO'
          have HB' := Lib.hid (hBw.out.trans (hG'.mono (Nat.le_refl _)))
          clear hrun hO' hG' hOw hcl
          generalize As j = A1 at *
          generalize ns j = n1 at *
          generalize cs j = c1 at *
          go_wp2_with (at_builtin; refine wpList_append_run rfl (.tmp 31) (.tmp 32) 22 rfl rfl rfl HR.out ?_)
          go_roundw
          case rel => exact ⟨HB', j + 1, by omega, by go_num, HO'⟩
          case measure => simp [intOf]; omega
        · obtain rfl : j = k := by omega
          go_wp2
          go_ret
          exact ⟨_, rfl, hOw.out, hBw.out⟩
end Go.Proofs.Ytdieokpfkojoiaa
