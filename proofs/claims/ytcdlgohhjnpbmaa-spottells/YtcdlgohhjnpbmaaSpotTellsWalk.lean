/-
  The walk of SpotTells: whatever the arguments and the memory, the call returns true and changes nothing that was there.
-/
import Derived.Test.YtcdlgohhjnpbmaaRefMarks
import Derived.Test.YtcdlgohhjnpbmaaRefPack
import Derived.Test.YtcdlgohhjnpbmaaRunFn
import Derived.Test.YtcdlgohhjnpbmaaSpotSet
namespace Go.Proofs.Ytcdlgohhjnpbmaa
open Go.RowKit

set_option maxHeartbeats 400000 in
theorem tells1_any (A : Option Addr) (n c B k b off : Nat) (zs : List Int) (w : World) (hn : n ≤ 4) (hk : k / 64 < n) (ha : Arr .u64 w B A n zs) (hm : w.cell? ⟨b, off, none⟩ = some (.slice A n c)) :
    Calls Try.prog 22 #[.int .i64 k, .pointer (some ⟨b, off, none⟩)] w fun e w' => e = .returned (.bool (bit zs k)) ∧ w = w' := by
  go_enter Try.func22, Try.ntmps22
  go_wp2_with fail
  refine (marked_any A n c B k zs _ hn hk ha).mono ?_
  rintro e w' ⟨rfl, rfl⟩
  clear ha
  go_wp2
  go_ret
  exact ⟨rfl, rfl⟩

/-- Is 'k' one of the 'q' numbers from 'p' on? -/
def within (p q k : Nat) : Bool := decide (p ≤ k ∧ k < p + q)
set_option maxHeartbeats 400000 in
theorem tells2_any (k p q b b' : Nat) (w : World) (hp : p ≤ 256) (hq : q ≤ 256) (h1 : w.cell? ⟨b, 0, none⟩ = some (.int .i64 p)) (h2 : w.cell? ⟨b', 0, none⟩ = some (.int .i64 q)) :
    Calls Try.prog 25 #[.int .i64 k, .pointer (some ⟨b, 0, none⟩), .pointer (some ⟨b', 0, none⟩)] w fun e w' => e = .returned (.bool (within p q k)) ∧ w = w' := by
  by_cases h : p ≤ k
  · have HR : Hid (within p q k = decide (k < p + q)) := by show _ = _; unfold within; simp [h]
    have HS : Hid (decide ((k : Int) < (p : Int) + (q : Int)) = decide (k < p + q)) := by show _ = _; rw [Bool.eq_iff_iff]; simp; omega
    go_enter Try.func25, Try.ntmps25
    go_wp2
    go_ret
    exact ⟨by rw [HR.out, ← HS.out]; rfl, rfl⟩
  · have HR : Hid (within p q k = false) := by show _ = _; unfold within; simp; omega
    have d : decide (p ≤ k) = false := by simpa using h
    go_enter Try.func25, Try.ntmps25
    go_wp2
    go_ret
    exact ⟨by rw [HR.out]; rfl, rfl⟩

/-- The mark of 'k' behind Set. -/
def setB (zs : List Int) (p q : Nat) (on : Bool) (k : Nat) : Bool := if within p q k then on else bit zs k
set_option maxHeartbeats 400000 in
theorem tells3_any (A : Option Addr) (n c B k p q b0 b1 b2 b3 g : Nat) (on : Bool) (zs : List Int) (w : World) (hn : n ≤ 4) (hk : k / 64 < n) (hp : p ≤ 256) (hq : q ≤ 256) (ha : Arr .u64 w B A n zs)
    (h0 : w.cell? ⟨b0, 0, none⟩ = some (.slice A n c)) (h1 : w.cell? ⟨b1, 0, none⟩ = some (.int .i64 p)) (h2 : w.cell? ⟨b2, 0, none⟩ = some (.int .i64 q)) (h3 : w.cell? ⟨b3, 0, none⟩ = some (.bool on))
    (hg : w.cell? ⟨g, 0, none⟩ = some (.func (.func 25) #[] #[.pointer (some ⟨b1, 0, none⟩), .pointer (some ⟨b2, 0, none⟩)])) :
    Calls Try.prog 28 #[.int .i64 k, .pointer (some ⟨g, 0, none⟩), .pointer (some ⟨b3, 0, none⟩), .pointer (some ⟨b0, 0, none⟩)] w fun e w' => e = .returned (.bool (setB zs p q on k)) ∧ w = w' := by
  have HI := Lib.hid (tells2_any k p q b1 b2 w hp hq h1 h2)
  cases hw : within p q k
  · have HR : Hid (setB zs p q on k = bit zs k) := by show _ = _; unfold setB; rw [hw]; rfl
    rw [hw] at HI
    clear hw h1 h2
    go_enter Try.func28, Try.ntmps28
    go_wp2_with fail
    refine HI.out.mono ?_
    rintro e w' ⟨rfl, rfl⟩
    go_wp2_with fail
    refine HI.out.mono ?_
    rintro e w' ⟨rfl, rfl⟩
    go_wp2_with fail
    refine (marked_any A n c B k zs _ hn hk ha).mono ?_
    rintro e w' ⟨rfl, rfl⟩
    clear ha
    go_wp2
    go_ret
    exact ⟨by rw [HR.out]; rfl, rfl⟩
  · have HR : Hid (setB zs p q on k = on) := by show _ = _; unfold setB; rw [hw]; rfl
    rw [hw] at HI
    clear hw h1 h2
    cases on
    · go_enter Try.func28, Try.ntmps28
      go_wp2_with fail
      refine HI.out.mono ?_
      rintro e w' ⟨rfl, rfl⟩
      go_wp2_with fail
      refine HI.out.mono ?_
      rintro e w' ⟨rfl, rfl⟩
      clear ha
      go_wp2
      go_ret
      exact ⟨by rw [HR.out]; rfl, rfl⟩
    · go_enter Try.func28, Try.ntmps28
      go_wp2_with fail
      refine HI.out.mono ?_
      rintro e w' ⟨rfl, rfl⟩
      clear ha
      go_wp2
      go_ret
      exact ⟨by rw [HR.out]; rfl, rfl⟩

theorem validB_true_iff {n a l : Int} : validB n a l = true ↔ 0 ≤ a ∧ a ≤ n ∧ 0 ≤ l ∧ l ≤ n - a := by unfold validB; simp
/-- Four boxed variables, each in a block of its own, above all that was there. -/
def Boxed (w W : World) (v0 v1 v2 v3 : Value) : Prop := Below w.heap.size w W ∧ w.heap.size + 4 ≤ W.heap.size ∧ W.cell? ⟨w.heap.size, 0, none⟩ = some v0 ∧ W.cell? ⟨w.heap.size + 1, 0, none⟩ = some v1 ∧
  W.cell? ⟨w.heap.size + 2, 0, none⟩ = some v2 ∧ W.cell? ⟨w.heap.size + 3, 0, none⟩ = some v3
theorem Boxed.step {w W W' : World} {v0 v1 v2 v3 : Value} (h : Boxed w W v0 v1 v2 v3) (hb : Below W.heap.size W W') : Boxed w W' v0 v1 v2 v3 := by
  obtain ⟨h1, h2, c0, c1, c2, c3⟩ := h
  refine ⟨h1.trans (hb.mono h1.size), Nat.le_trans h2 hb.size, ?_, ?_, ?_, ?_⟩
  · exact (hb.cell (p := ⟨w.heap.size, 0, none⟩) (by show w.heap.size < _; omega)).trans c0
  · exact (hb.cell (p := ⟨w.heap.size + 1, 0, none⟩) (by show w.heap.size + 1 < _; omega)).trans c1
  · exact (hb.cell (p := ⟨w.heap.size + 2, 0, none⟩) (by show w.heap.size + 2 < _; omega)).trans c2
  · exact (hb.cell (p := ⟨w.heap.size + 3, 0, none⟩) (by show w.heap.size + 3 < _; omega)).trans c3
theorem cell_new (w : World) (v : Value) (t : TypeId) : (w.alloc (.cells #[v] t)).cell? ⟨w.heap.size, 0, none⟩ = some v := by
  rw [cell_of_row _ _ 0 _ t (0, 0) (heap_alloc_new w _)]; rfl
theorem cell_alloc {w : World} {b : Nat} {v : Value} (h : w.cell? ⟨b, 0, none⟩ = some v) (o : Obj) (hb : b < w.heap.size) : (w.alloc o).cell? ⟨b, 0, none⟩ = some v :=
  (World.cell?_alloc_lt w o ⟨b, 0, none⟩ hb).trans h
theorem size_alloc (w : World) (o : Obj) : (w.alloc o).heap.size = w.heap.size + 1 := by simp
theorem Boxed.new (w : World) (v0 v1 v2 v3 : Value) (t0 t1 t2 t3 : TypeId) : Boxed w ((((w.alloc (.cells #[v0] t0)).alloc (.cells #[v1] t1)).alloc (.cells #[v2] t2)).alloc (.cells #[v3] t3)) v0 v1 v2 v3 := by
  have n0 := cell_new w v0 t0
  have n1 := cell_new (w.alloc (.cells #[v0] t0)) v1 t1
  have n2 := cell_new ((w.alloc (.cells #[v0] t0)).alloc (.cells #[v1] t1)) v2 t2
  have n3 := cell_new (((w.alloc (.cells #[v0] t0)).alloc (.cells #[v1] t1)).alloc (.cells #[v2] t2)) v3 t3
  simp only [size_alloc] at n1 n2 n3
  refine ⟨((((Below.refl _ _).alloc (Nat.le_refl _) _).alloc (by simp) _).alloc (by simp; omega) _).alloc (by simp; omega) _, by simp, ?_, ?_, ?_, ?_⟩
  · exact cell_alloc (cell_alloc (cell_alloc n0 _ (by simp)) _ (by simp; omega)) _ (by simp; omega)
  · exact cell_alloc (cell_alloc n1 _ (by simp)) _ (by simp)
  · exact cell_alloc n2 _ (by simp)
  · exact n3

theorem setL_pack {zs : List Int} (hz : U64s zs) {r p q : Nat} {on : Bool} (h : marksE zs r = 0) (hr : p + q ≤ r) : setL zs p q on = packTo (setB zs p q on) r 0 := by
  obtain ⟨h1, h2, h3, h4⟩ := marksE_zero h
  refine bits_ext (by rw [setL_length, packTo_length]; omega) (setL_u64 hz _ _ _) (packTo_u64 _ _ _) fun k hk => ?_
  rw [setL_length] at hk
  rw [setL_bit _ _ _ _ hk, packTo_bit _ _ _ (by omega)]
  unfold setB within
  by_cases hkr : k < r
  · have d : decide (k < r) = true := by simpa using hkr
    rw [d, Bool.true_and]
    by_cases hin : p ≤ k ∧ k < p + q
    · rw [if_pos hin, if_pos (by simpa using hin)]
    · rw [if_neg hin, if_neg (by simpa using hin)]
  · have d : decide (k < r) = false := by simpa using hkr
    rw [d, Bool.false_and, if_neg (by omega)]
    exact stray_false.1 h4 k hk (by omega)
theorem run_store_new (P : Program) (w : World) (t : TypeId) (x : Value) (f : Fn) (rs caps : Array Value) :
    Sem.run P (store ⟨w.heap.size, 0, none⟩ (.func f rs caps)) (w.alloc (.cells #[x] t)) = .ok () (w.alloc (.cells #[.func f rs caps] t)) := by
  rw [run_store P _ _ _ _ rfl]
  simp [World.setCell_alloc_at]
theorem quiet_same {P : Program} {f : FuncId} {args : Array Value} {w : World} {n : Nat} {v : Value} (h : Calls P f args (w.drewN n) fun e w' => e = .returned v ∧ w.drewN n = w') :
    Calls P f args (w.drewN n) fun e w'' => e = .returned v ∧ ∃ m, w'' = w.drewN m := h.mono fun _ _ ⟨he, hm⟩ => ⟨he, n, hm.symm⟩
theorem strB_iff {n : Nat} {i m : Int} : strB n i m = true ↔ 0 ≤ m ∧ 0 ≤ i ∧ i ≤ n ∧ m ≤ n - i := by unfold strB; simp
theorem strB_valid (n : Nat) (i m : Int) : strB n i m = validB n i m := by rw [Bool.eq_iff_iff, strB_iff, validB_true_iff]; omega

set_option maxHeartbeats 4000000 in
set_option maxRecDepth 100000 in
theorem spotTells_walk (A : Option Addr) (n c : Nat) (m a l : Int) (on : Bool) (zs : List Int) (w : World) (hn : n ≤ maxLen) (hm : (Lit.int .i64 m).wf = true) (hi : (Lit.int .i64 a).wf = true) (hl : (Lit.int .i64 l).wf = true) (ha : Arr .u64 w w.heap.size A n zs) :
    Calls Try.prog 3 #[.slice A n c, .int .i64 m, .int .i64 a, .int .i64 l, .bool on] w fun e w' => e = .returned (.bool true) ∧ Below w.heap.size w w' := by
  have b0 := Boxed.new w (.slice A n c) (.int .i64 a) (.int .i64 l) (.bool on) 22 3 3 4
  go_enter Try.func3, Try.ntmps3
  go_wp2_with fail
  refine (Set_any A n c m a l on zs _ hn hm hi hl ((ha.below b0.1 (Nat.le_refl _)).more b0.1.size)).mono ?_
  rintro e w1 ⟨A1, k1, c1, rfl, hb1, h1⟩
  have b1 := b0.step hb1
  have ha1 := (ha.below b1.1 (Nat.le_refl _)).more b1.1.size
  obtain ⟨_, hs1, e0, e1, e2, e3⟩ := b1
  go_wp2_with fail
  refine (Has_any A n c _ m a zs _ hn hm hi ha1).mono ?_
  rintro e w' ⟨rfl, rfl⟩
  go_wp2_with fail
  refine (Next_any A n c _ m a on zs _ hn hm hi ha1).mono ?_
  rintro e w' ⟨rfl, rfl⟩
  go_wp2_with fail
  refine (Count_any A n c _ m a l zs _ hn hm hi hl ha1).mono ?_
  rintro e w' ⟨rfl, rfl⟩
  go_wp2_with fail
  refine (Runs_any A n c m zs _ hn hm ha1).mono ?_
  rintro e w2 ⟨A2, k2, c2, rfl, hb2, hkc2, h2⟩
  have b2 := (b0.step hb1).step hb2
  have ha2 := (ha.below b2.1 (Nat.le_refl _)).more b2.1.size
  clear e0 e1 e2 e3
  obtain ⟨hB2, hs2, e0, e1, e2, e3⟩ := b2
  go_wp2_with fail
  refine (marksFault_any A n c _ m zs _ hn hm ha2).mono ?_
  rintro e w' ⟨rfl, rfl⟩
  go_wp2_with fail
  refine (spotCheck_any A n c _ m zs _ hn hm ha2).mono ?_
  rintro e w' ⟨rfl, rfl⟩
  have cc : (marksE zs m != marksE zs m) = false := by simp
  by_cases hE : marksE zs m = 0
  · obtain ⟨g1, g2, g3, g4, g5⟩ := marks_len hE ha.1
    obtain ⟨r, rfl⟩ := Int.eq_ofNat_of_zero_le g3
    obtain ⟨_, rfl, hA2⟩ := h2.resolve_left (fun h => h.1 hE)
    rw [Int.toNat_natCast] at hA2 hkc2 ⊢
    have hlen := runsTo_len (f := bit zs) r
    rw [hE]
    have HA1 : Hid ((spotE zs r a l ≠ 0 ∧ k1 = 0) ∨ (spotE zs r a l = 0 ∧ k1 = n ∧ Arr .u64 w2 w2.heap.size A1 n (setL zs a.toNat l.toNat on))) :=
      h1.imp id fun ⟨x, y, z⟩ => ⟨x, y, (z.below hb2 (Nat.le_refl _)).more hb2.size⟩
    have HB := Lib.hid hB2
    have HE := Lib.hid hE
    clear h1 h2 hb1 hb2 ha ha1 b0 hB2 hE cc
    have HRun := Lib.hid (runsOf_any r 22 #[.pointer (some ⟨w.heap.size, 0, none⟩)] (bit zs) w2 (by omega) Try.call22
      (fun wx hx k hk => (tells1_any A n c w2.heap.size k w.heap.size 0 zs wx g1 (by omega) (ha2.below hx (Nat.le_refl _)) ((hx.cell (p := ⟨w.heap.size, 0, none⟩) (by show w.heap.size < _; omega)).trans e0)).mono
        (by rintro e w' ⟨rfl, rfl⟩; exact ⟨rfl, Below.refl _ _⟩)))
    go_wp2_with fail
    refine HRun.out.mono ?_
    rintro e w3 ⟨v3, rfl, hO3, hb3⟩
    obtain ⟨A3, c3, rfl, hc3, hA3⟩ := hO3.arr runC_len
    go_wp2_with fail
    refine (equalRuns A2 A3 _ _ c2 c3 w3.heap.size (runsTo (bit zs) r) (runsTo (bit zs) r) _ ((hA2.below hb3 (Nat.le_refl _)).more hb3.size) hA3 (by unfold maxLen; omega) (by unfold maxLen; omega)).mono ?_
    rintro e w4 ⟨rfl, qq, rfl⟩
    rw [show decide (runsTo (bit zs) r = runsTo (bit zs) r) = true by simp]
    have hb4 : Below w2.heap.size w2 (w3.drewN qq) := below_drewN hb3 qq
    have b4 : Boxed w (w3.drewN qq) (.slice A n c) (.int .i64 a) (.int .i64 l) (.bool on) := Boxed.step ⟨HB.out, hs2, e0, e1, e2, e3⟩ hb4
    have ha4 := (ha2.below hb4 (Nat.le_refl _)).more hb4.size
    have HA4 : Hid ((spotE zs r a l ≠ 0 ∧ k1 = 0) ∨ (spotE zs r a l = 0 ∧ k1 = n ∧ Arr .u64 (w3.drewN qq) (w3.drewN qq).heap.size A1 n (setL zs a.toNat l.toNat on))) :=
      HA1.out.imp id fun ⟨x, y, z⟩ => ⟨x, y, (z.below hb4 (Nat.le_refl _)).more hb4.size⟩
    clear e0 e1 e2 e3 hs2 HA1 HB ha2 hb4 hb3 hO3 hA3 hA2 HRun
    generalize w3.drewN qq = w5 at *
    obtain ⟨hB5, hs5, e0, e1, e2, e3⟩ := b4
    have HB5 := Lib.hid hB5
    clear hB5
    have hst : ∀ i : Int, strB r a i = false → spotE zs r a i = 4 := fun i h => spotE_four HE.out (by rw [← strB_valid]; exact h)
    have hso : ∀ i : Int, strB r a i = true → spotE zs r a i = 0 := fun i h => spotE_ok HE.out (by rw [← strB_valid]; exact h)
    obtain ⟨vH, hH⟩ : ∃ x, hasV zs r a = x := ⟨_, rfl⟩
    obtain ⟨vN, hN⟩ : ∃ x, nextV zs r a on = x := ⟨_, rfl⟩
    obtain ⟨vB, hB⟩ : ∃ x, nextB zs r a on = x := ⟨_, rfl⟩
    obtain ⟨vC, hC⟩ : ∃ x, countV zs r a l = x := ⟨_, rfl⟩
    obtain ⟨E0, hE0⟩ : ∃ x, spotE zs r a 0 = x := ⟨_, rfl⟩
    obtain ⟨E1, hE1⟩ : ∃ x, spotE zs r a 1 = x := ⟨_, rfl⟩
    obtain ⟨El, hEl⟩ : ∃ x, spotE zs r a l = x := ⟨_, rfl⟩
    have HF1 : Hid (strB r a 1 = false → vH = false ∧ E1 = 4) := fun h => by
      have f1 := hst 1 h
      exact ⟨by rw [← hH, hasV, if_neg (by rw [f1]; decide)], by rw [← hE1]; exact f1⟩
    have HF2 : Hid (strB r a 1 = true → vH = bit zs a.toNat ∧ E1 = 0) := fun h => by
      have f1 := hso 1 h
      exact ⟨by rw [← hH, hasV, if_pos f1], by rw [← hE1]; exact f1⟩
    have HF3 : Hid (strB r a 0 = false → vN = 0 ∧ vB = false ∧ E0 = 4) := fun h => by
      have f1 := hst 0 h
      exact ⟨by rw [← hN, nextV, if_neg (by rw [f1]; decide)], by rw [← hB, nextB, if_neg (by rw [f1]; decide)], by rw [← hE0]; exact f1⟩
    have HF4 : Hid (strB r a 0 = true → vN = (nextN zs on r a.toNat : Nat) ∧ vB = decide (nextN zs on r a.toNat < r) ∧ E0 = 0) := fun h => by
      have f1 := hso 0 h
      exact ⟨by rw [← hN, nextV, if_pos f1]; rfl, by rw [← hB, nextB, if_pos f1]; rfl, by rw [← hE0]; exact f1⟩
    have HF5 : Hid (strB r a l = false → vC = 0 ∧ El = 4) := fun h => by
      have f1 := hst l h
      exact ⟨by rw [← hC, countV, if_neg (by rw [f1]; decide)], by rw [← hEl]; exact f1⟩
    have HF6 : Hid (strB r a l = true → vC = (cnt (bit zs) a.toNat l.toNat : Nat) ∧ El = 0) := fun h => by
      have f1 := hso l h
      exact ⟨by rw [← hC, countV, if_pos f1], by rw [← hEl]; exact f1⟩
    rw [hH, hN, hB, hC, hE0, hE1, hEl]
    rw [hEl] at HA4
    clear hst hso hH hN hB hC hE0 hE1 hEl
    have hr : r ≤ maxLen := by unfold maxLen; omega
    go_upto_region 13 with fail
    go_cut [161] (fun s wx => s = .bool false ∧ w5 = wx)
    case first =>
      go_wp2_with fail
      refine (stretch_any r a 1 _ hr hi (by decide)).mono ?_
      rintro e w' ⟨rfl, rfl⟩
      cases hS : strB r a 1
      · obtain ⟨rfl, rfl⟩ := HF1.out hS
        have HC := Lib.hid (stretch_any r a 1 w5 hr hi (by decide))
        rw [hS] at HC
        clear hS
        go_wp2_with fail
        refine HC.out.mono ?_
        rintro e w' ⟨rfl, rfl⟩
        go_wp2
        go_meet
        exact ⟨rfl, rfl⟩
      · obtain ⟨rfl, rfl⟩ := HF2.out hS
        obtain ⟨_, a0, _, a1⟩ := strB_iff.1 hS
        obtain ⟨p, rfl⟩ := Int.eq_ofNat_of_zero_le a0
        have HC := Lib.hid (stretch_any r p 1 w5 hr hi (by decide))
        rw [hS] at HC
        have HM := Lib.hid (marked_any A n c _ p zs w5 g1 (by omega) ha4)
        clear hS
        rw [Int.toNat_natCast]
        have cx : (bit zs p == bit zs p) = true := by simp
        go_wp2_with fail
        refine HC.out.mono ?_
        rintro e w' ⟨rfl, rfl⟩
        go_wp2_with fail
        refine HM.out.mono ?_
        rintro e w' ⟨rfl, rfl⟩
        go_wp2
        go_meet
        exact ⟨rfl, rfl⟩
    case rest =>
      obtain ⟨rfl, rfl⟩ := hcut
      clear HF1 HF2
      go_wp2_with fail
      refine (stretch_any r a 0 _ hr hi (by decide)).mono ?_
      rintro e w' ⟨rfl, rfl⟩
      go_upto_if 165 with (fail)
      go_cut [15, 16] (fun _ _ wx => Below w5.heap.size w5 wx)
      case first =>
        cases hS : strB r a 0
        · obtain ⟨rfl, rfl, rfl⟩ := HF3.out hS
          clear hS
          go_wp2
          go_meet
          exact Below.refl _ _
        · obtain ⟨rfl, rfl, rfl⟩ := HF4.out hS
          obtain ⟨_, a0, a1, _⟩ := strB_iff.1 hS
          obtain ⟨p, rfl⟩ := Int.eq_ofNat_of_zero_le a0
          clear hS
          rw [Int.toNat_natCast]
          have hle := nextN_le (zs := zs) (on := on) (n := r) (a := p) (by omega)
          go_wp2
          go_loopw [23] (fun i wr => ∃ k : Nat, k ≤ r ∧ i = .int .i64 k ∧ Hid (nextN zs on r k = nextN zs on r p) ∧ Below w5.heap.size w5 wr) (fun i _ => r - (intOf i).toNat)
          case atStart => exact ⟨p, by omega, rfl, Lib.hid rfl, Below.refl _ _⟩
          case round =>
            obtain ⟨k, hk, rfl, HN, hBr⟩ := hrel
            have hm5 := (hBr.cell (p := ⟨w.heap.size, 0, none⟩) (by show w.heap.size < _; omega)).trans e0
            have ho5 := (hBr.cell (p := ⟨w.heap.size + 3, 0, none⟩) (by show w.heap.size + 3 < _; omega)).trans e3
            have ha5 := ha4.below hBr (Nat.le_refl _)
            have HBr := Lib.hid hBr
            clear hBr e0 e1 e2 e3 ha4
            by_cases hlt : k < r
            · have hlt' : (k : Int) < (r : Int) := by omega
              by_cases hb : bit zs k = on
              · have HT : Hid (nextN zs on r p = k) := by show _ = _; rw [← HN.out, nextN_stop hlt hb]
                have cq : (on == on) = true := by simp
                have HMq : ∀ nq, Calls Try.prog 23 #[.slice A n c, .int .i64 k] (wr.drewN nq) (fun e w' => e = .returned (.bool on) ∧ wr.drewN nq = w') := by
                  intro nq
                  have := marked_any A n c w5.heap.size k zs (wr.drewN nq) g1 (by omega) (ha5.drewN nq)
                  rwa [hb] at this
                have HMQ := Lib.hid HMq
                clear HMq hb
                go_wp2
                go_quiet ((go_at_call 23; exact quiet_same (HMQ.out _)))
                rw [HT.out]
                have ck : ((k : Int) != (k : Int)) = false := by simp
                have dk : decide (k < r) = true := by simpa using hlt
                go_wp2
                go_meet
                exact below_drewN HBr.out _
              · have cq : (bit zs k == on) = false := by simpa using hb
                have HN2 : Hid (nextN zs on r (k + 1) = nextN zs on r p) := by show _ = _; rw [← HN.out, ← nextN_step hlt hb]
                go_wp2
                go_quiet ((go_at_call 23; exact quiet_same (marked_any A n c w5.heap.size k zs _ g1 (by omega) ha5)))
                go_wp2
                go_roundw
                case rel => exact ⟨k + 1, by omega, by go_num, HN2, below_drewN HBr.out _⟩
                case measure => simp [intOf]; omega
            · obtain rfl : k = r := by omega
              have HT : Hid (nextN zs on k p = k) := by show _ = _; rw [← HN.out, nextN_end]
              have dk : decide ((k : Int) < (k : Int)) = false := by simp
              have dk' : decide (k < k) = false := by simp
              have ck : ((k : Int) != (k : Int)) = false := by simp
              go_wp2
              go_quiet (fail)
              rw [HT.out]
              go_wp2
              go_meet
              exact below_drewN HBr.out _
      case rest =>
        obtain ⟨w6, rfl⟩ : ∃ w6, w6 = wc := ⟨_, rfl⟩
        have hb6 : Below w5.heap.size w5 w6 := hcut
        have b6 : Boxed w w6 (.slice A n c) (.int .i64 a) (.int .i64 l) (.bool on) := Boxed.step ⟨HB5.out, hs5, e0, e1, e2, e3⟩ hb6
        have ha6 := (ha4.below hb6 (Nat.le_refl _)).more hb6.size
        have HA6 : Hid ((El ≠ 0 ∧ k1 = 0) ∨ (El = 0 ∧ k1 = n ∧ Arr .u64 w6 w6.heap.size A1 n (setL zs a.toNat l.toNat on))) :=
          HA4.out.imp id fun ⟨x, y, z⟩ => ⟨x, y, (z.below hb6 (Nat.le_refl _)).more hb6.size⟩
        clear e0 e1 e2 e3 hs5 HA4 HB5 ha4 hb6 hcut HF3 HF4
        obtain ⟨hB6, hs6, e0, e1, e2, e3⟩ := b6
        have HB6 := Lib.hid hB6
        clear hB6
        go_wp2_with fail
        refine (stretch_any r a l _ hr hi hl).mono ?_
        rintro e w' ⟨rfl, rfl⟩
        cases hS : strB r a l
        · obtain ⟨rfl, rfl⟩ := HF5.out hS
          obtain ⟨_, rfl⟩ := HA6.out.resolve_right (fun h => absurd h.1 (by decide))
          clear hS HA6 HF5 HF6 ha6
          go_wp2
          go_ret
          exact ⟨rfl, HB6.out⟩
        · obtain ⟨rfl, rfl⟩ := HF6.out hS
          obtain ⟨_, rfl, hA6⟩ := HA6.out.resolve_left (fun h => h.1 rfl)
          obtain ⟨l0, a0, a1, l1⟩ := strB_iff.1 hS
          obtain ⟨p, rfl⟩ := Int.eq_ofNat_of_zero_le a0
          obtain ⟨q, rfl⟩ := Int.eq_ofNat_of_zero_le l0
          rw [Int.toNat_natCast, Int.toNat_natCast] at hA6
          rw [Int.toNat_natCast, Int.toNat_natCast]
          have hcl := cnt_le (bit zs) p q
          have HA := Lib.hid hA6
          clear hS HA6 HF5 HF6 hA6
          go_wp2_with fail
          go_loop [24, 223] (fun s i => ∃ k : Nat, k ≤ q ∧ i = .int .i64 k ∧ s = .int .i64 (cnt (bit zs) p k : Nat)) (fun _ i => q - (intOf i).toNat)
          case atStart => exact ⟨0, Nat.zero_le _, rfl, rfl⟩
          case round =>
            obtain ⟨k, hk, rfl, rfl⟩ := hrel
            have hck := cnt_le (bit zs) p k
            by_cases hlt : k < q
            · have hlt' : (k : Int) < (q : Int) := by omega
              have HM := Lib.hid (marked_any A k1 c _ (p + k) zs w6 g1 (by omega) ha6)
              have HC : Hid (cnt (bit zs) p (k + 1) = cnt (bit zs) p k + if bit zs (p + k) then 1 else 0) := rfl
              cases hb : bit zs (p + k)
              · rw [hb] at HM HC
                clear hb
                generalize hX : cnt (bit zs) p k = X at *
                clear hX
                go_wp2_with fail
                refine HM.out.mono ?_
                rintro e w' ⟨rfl, rfl⟩
                go_wp2
                go_round
                case rel => exact ⟨k + 1, by omega, by go_num, by rw [HC.out]; go_num⟩
                case measure => simp [intOf]; omega
              · rw [hb] at HM HC
                clear hb
                generalize hX : cnt (bit zs) p k = X at *
                clear hX
                go_wp2_with fail
                refine HM.out.mono ?_
                rintro e w' ⟨rfl, rfl⟩
                go_wp2
                go_round
                case rel => exact ⟨k + 1, by omega, by go_num, by rw [HC.out]; go_num⟩
                case measure => simp [intOf]; omega
            · obtain rfl : k = q := by omega
              have cX : (((cnt (bit zs) p k : Nat) : Int) == ((cnt (bit zs) p k : Nat) : Int)) = true := by simp
              have HEq := Lib.hid (setL_pack (on := on) ha6.2.1 HE.out (by omega : p + k ≤ r))
              generalize cnt (bit zs) p k = X at *
              have hst := run_store_new Try.prog w6 41 .nilFunc (.func 25) #[] #[.pointer (some ⟨w.heap.size + 1, 0, none⟩), .pointer (some ⟨w.heap.size + 1 + 1, 0, none⟩)]
              have hb7 : Below w6.heap.size w6 (w6.alloc (.cells #[.func (.func 25) #[] #[.pointer (some ⟨w.heap.size + 1, 0, none⟩), .pointer (some ⟨w.heap.size + 1 + 1, 0, none⟩)]] 41)) := (Below.refl _ _).alloc (Nat.le_refl _) _
              have c7 := cell_new w6 (.func (.func 25) #[] #[.pointer (some ⟨w.heap.size + 1, 0, none⟩), .pointer (some ⟨w.heap.size + 1 + 1, 0, none⟩)]) 41
              have s7 := size_alloc w6 (.cells #[.func (.func 25) #[] #[.pointer (some ⟨w.heap.size + 1, 0, none⟩), .pointer (some ⟨w.heap.size + 1 + 1, 0, none⟩)]] 41)
              have b7 : Boxed w _ (.slice A k1 c) (.int .i64 p) (.int .i64 k) (.bool on) := Boxed.step ⟨HB6.out, hs6, e0, e1, e2, e3⟩ hb7
              have ha7 := ha6.below hb7 (Nat.le_refl _)
              have hA7 := HA.out.below hb7 (Nat.le_refl _)
              generalize hW7 : w6.alloc (.cells #[.func (.func 25) #[] #[.pointer (some ⟨w.heap.size + 1, 0, none⟩), .pointer (some ⟨w.heap.size + 1 + 1, 0, none⟩)]] 41) = w7 at *
              have HMk := Lib.hid (marksOf_any r 28 #[.pointer (some ⟨w6.heap.size, 0, none⟩), .pointer (some ⟨w.heap.size + 1 + 1 + 1, 0, none⟩), .pointer (some ⟨w.heap.size, 0, none⟩)] (setB zs p k on) w7 (by omega) Try.call28
                (fun wx hx j hj => by
                  have b8 := b7.step hx
                  obtain ⟨_, _, f0, f1, f2, f3⟩ := b8
                  exact (tells3_any A k1 c w6.heap.size j p k w.heap.size (w.heap.size + 1) (w.heap.size + 1 + 1) (w.heap.size + 1 + 1 + 1) w6.heap.size on zs wx g1 (by omega) (by omega) (by omega) (ha7.below hx (by omega)) f0 f1 f2 f3
                    ((hx.cell (p := ⟨w6.heap.size, 0, none⟩) (by show w6.heap.size < _; omega)).trans c7)).mono (by rintro e w' ⟨rfl, rfl⟩; exact ⟨rfl, Below.refl _ _⟩)))
              have HB7 := Lib.hid b7.1
              have HA7 := Lib.hid hA7
              have H67 := Lib.hid s7
              clear hW7 b7 ha7 hA7 hb7 c7 s7 HA ha6 e0 e1 e2 e3
              go_wp2_with fail
              refine HMk.out.mono ?_
              rintro e w8 ⟨A8, c8, rfl, hA8, hb8⟩
              rw [← HEq.out] at hA8
              have ha8 := ((HA7.out.below hb8 (by have := H67.out; omega)).more (by have := hb8.size; have := H67.out; omega : w6.heap.size ≤ w8.heap.size))
              have HB8 := Lib.hid (HB7.out.trans (hb8.mono HB7.out.size))
              clear hb8 hst
              go_wp2_with fail
              refine (equalWords A1 A8 k1 _ _ _ _ (setL zs p k on) (setL zs p k on) _ ha8 hA8 hn (by unfold maxLen; omega)).mono ?_
              rintro e w9 ⟨rfl, q9, rfl⟩
              rw [show decide (setL zs p k on = setL zs p k on) = true by simp]
              clear ha8 hA8
              go_wp2
              go_ret
              exact ⟨rfl, below_drewN HB8.out _⟩
  · have s1 : spotE zs m a l = marksE zs m := spotE_bad hE
    have s2 : spotE zs m a 1 = marksE zs m := spotE_bad hE
    have s3 : spotE zs m a 0 = marksE zs m := spotE_bad hE
    have v1 : hasV zs m a = false := by rw [hasV, if_neg (by rw [s2]; exact hE)]
    have v2 : nextV zs m a on = 0 := by rw [nextV, if_neg (by rw [s3]; exact hE)]
    have v3 : nextB zs m a on = false := by rw [nextB, if_neg (by rw [s3]; exact hE)]
    have v4 : countV zs m a l = 0 := by rw [countV, if_neg (by rw [s1]; exact hE)]
    obtain ⟨_, rfl⟩ := h1.resolve_right (fun h => hE (s1 ▸ h.1))
    obtain ⟨_, rfl⟩ := h2.resolve_right (fun h => hE h.1)
    rw [s1, s2, s3, v1, v2, v3, v4]
    have c1 : (marksE zs m != 0) = true := by simpa using hE
    have c2 : (marksE zs m == marksE zs m) = true := by simp
    have HB := Lib.hid hB2
    clear h1 h2 s1 s2 s3 v1 v2 v3 v4 hE hb1 hb2 ha ha1 ha2 b0 hB2 e0 e1 e2 e3
    generalize marksE zs m = E at *
    go_wp2
    go_ret
    exact ⟨rfl, HB.out⟩
end Go.Proofs.Ytcdlgohhjnpbmaa
