/-
  The walk of WordOwn.
-/
import Derived.Test.YtggjgcnmkkoheaaGive
import Derived.Test.YtggjgcnmkkoheaaGapJoin
import Derived.OpenShut
namespace Go.Proofs.Ytggjgcnmkkoheaa
open Go.RowKit

/-- The slice is nil, or all its memory, up to its capacity, is a block of words from 'base' on. -/
def Ints (base : Nat) (w : World) (A : Option Addr) (c : Nat) : Prop :=
  (A = none ∧ c = 0) ∨ ∃ g xs, A = some ⟨g, 0, none⟩ ∧ base ≤ g ∧ xs.length = c ∧ c ≤ maxLen ∧ Whole .u64 42 w g xs
theorem Fresh.ints {w : World} {base n c : Nat} {A : Option Addr} {zs : List Int} (h : Fresh 42 w base A n c zs) : Ints base w A c := by
  rcases h with ⟨h1, _, h2, _⟩ | ⟨g, sp, h1, h2, _, h3, h4, hW⟩
  · exact .inl ⟨h1, h2⟩
  · exact .inr ⟨g, _, h1, h2, h3, h4, hW⟩
theorem Ints.below {w w' : World} {base c B : Nat} {A : Option Addr} (h : Ints base w A c) (hb : Below B w w') (hB : w.heap.size ≤ B) : Ints base w' A c := by
  rcases h with h | ⟨g, xs, h1, h2, h3, h4, hW⟩
  · exact .inl h
  · exact .inr ⟨g, xs, h1, h2, h3, h4, hW.below hb (Nat.lt_of_lt_of_le hW.lt hB)⟩
theorem Ints.less {w : World} {base base' c : Nat} {A : Option Addr} (h : Ints base w A c) (hb : base' ≤ base) : Ints base' w A c := by
  rcases h with h | ⟨g, xs, h1, h2, r⟩
  · exact .inl h
  · exact .inr ⟨g, xs, h1, Nat.le_trans hb h2, r⟩
theorem Whole.setAny {w : World} {g : Nat} {xs : List Int} (h : Whole .u64 42 w g xs) (g' j : Nat) (z : Int) (hz : (Lit.int .u64 z).wf = true) : ∃ ys, ys.length = xs.length ∧ Whole .u64 42 (w.setCell ⟨g', j, none⟩ (.int .u64 z)) g ys := by
  by_cases he : g' = g
  · subst he
    exact ⟨_, by simp, h.set_ j z hz⟩
  · refine ⟨xs, rfl, ?_, h.2⟩
    rw [← h.1]
    show (w.heap.modify g' _)[g]? = _
    rw [Array.getElem?_modify, if_neg he]
theorem Ints.set {w : World} {base c : Nat} {A : Option Addr} (h : Ints base w A c) (g j : Nat) (z : Int) (hz : (Lit.int .u64 z).wf = true) : Ints base (w.setCell ⟨g, j, none⟩ (.int .u64 z)) A c := by
  rcases h with h | ⟨g', xs, h1, h2, h3, h4, hW⟩
  · exact .inl h
  · obtain ⟨ys, hl, hW'⟩ := hW.setAny g j z hz
    exact .inr ⟨g', ys, h1, h2, by rw [hl]; exact h3, h4, hW'⟩

/-- What holds while WordOwn writes into the results. -/
structure OwnI (w1 : World) (A0 A1 A2 A3 : Option Addr) (c0 c1 c2 c3 : Nat) (wr : World) : Prop where
  below : Below w1.heap.size w1 wr
  i0 : Ints w1.heap.size wr A0 c0
  i1 : Ints w1.heap.size wr A1 c1
  i2 : Ints w1.heap.size wr A2 c2
  i3 : Ints w1.heap.size wr A3 c3
theorem OwnI.set {w1 : World} {A0 A1 A2 A3 : Option Addr} {c0 c1 c2 c3 : Nat} {wr : World} (h : OwnI w1 A0 A1 A2 A3 c0 c1 c2 c3 wr) {g : Nat} (hg : w1.heap.size ≤ g) (j : Nat) (z : Int) (hz : (Lit.int .u64 z).wf = true) :
    OwnI w1 A0 A1 A2 A3 c0 c1 c2 c3 (wr.setCell ⟨g, j, none⟩ (.int .u64 z)) :=
  ⟨below_set h.below hg j _, h.i0.set g j z hz, h.i1.set g j z hz, h.i2.set g j z hz, h.i3.set g j z hz⟩

/-- A call that gives words of its own. -/
def GivesP (w : World) (e : Ending) (w' : World) : Prop := ∃ A k c E, e = .returned (.tuple #[.slice A k c, .int .i64 E]) ∧ Below w.heap.size w w' ∧ k ≤ c ∧ c ≤ maxLen ∧ Ints w.heap.size w' A c
theorem gives_nil {w : World} {E : Int} : GivesP w (.returned (.tuple #[.slice none 0 0, .int .i64 E])) w := ⟨none, 0, 0, E, rfl, Below.refl _ _, Nat.le_refl _, Nat.zero_le _, .inl ⟨rfl, rfl⟩⟩
theorem gives_fresh {w w' : World} {A : Option Addr} {n c : Nat} {E : Int} {zs : List Int} (hb : Below w.heap.size w w') (h : Fresh 42 w' w.heap.size A n c zs) : GivesP w (.returned (.tuple #[.slice A n c, .int .i64 E])) w' := ⟨A, n, c, E, rfl, hb, h.cap.1, h.cap.2, h.ints⟩
theorem move_gives (A : Option Addr) (n c : Nat) (i j m : Int) (zs : List Int) (w : World) (hn : n ≤ maxLen) (hnc : n ≤ c) (hi : (Lit.int .i64 i).wf = true) (hj : (Lit.int .i64 j).wf = true) (hm : (Lit.int .i64 m).wf = true) (ha : Arr .u64 w w.heap.size A n zs) :
    Calls Try.prog 44 #[.slice A n c, .int .i64 i, .int .i64 j, .int .i64 m] w (GivesP w) := by
  by_cases h : rangeE n i m = 0
  · by_cases h' : rangeE n j m = 0
    · obtain ⟨h256, i0, i1, m0, m1⟩ := rangeE_zero h
      obtain ⟨_, j0, j1, _, m2⟩ := rangeE_zero h'
      refine (move_ok A n c i j m zs w h256 hnc i0 i1 m0 m1 j0 j1 m2 ha).mono ?_
      rintro e w' ⟨rfl, hW, hB⟩
      have hl : (splice zs j.toNat ((zs.drop i.toNat).take m.toNat)).length = n := by rw [length_splice _ _ _ (by have := ha.1; simp; omega)]; exact ha.1
      have := Fresh.of hW (Nat.le_refl _) (by rw [hl]; exact hn)
      rw [hl] at this
      exact gives_fresh hB this
    · refine (move_bad2 A n c i j m w hn hi hj hm h h').mono ?_
      rintro e w' ⟨rfl, rfl⟩
      exact gives_nil
  · refine (move_bad1 A n c i j m w hn hi hm h).mono ?_
    rintro e w' ⟨rfl, rfl⟩
    exact gives_nil
theorem fill_gives (A : Option Addr) (n c : Nat) (i m v : Int) (zs : List Int) (w : World) (hn : n ≤ maxLen) (hi : (Lit.int .i64 i).wf = true) (hm : (Lit.int .i64 m).wf = true) (hv : (Lit.int .u64 v).wf = true) (ha : Arr .u64 w w.heap.size A n zs) :
    Calls Try.prog 45 #[.slice A n c, .int .i64 i, .int .i64 m, .int .u64 v] w (GivesP w) := by
  by_cases h : rangeE n i m = 0
  · obtain ⟨h256, i0, i1, m0, m1⟩ := rangeE_zero h
    refine (fill_ok A n c i m v zs w h256 i0 i1 m0 m1 hv ha).mono ?_
    rintro e w' ⟨rfl, hW, hB⟩
    have hl : (splice zs i.toNat (List.replicate m.toNat v)).length = n := by rw [length_splice _ _ _ (by have := ha.1; simp; omega)]; exact ha.1
    have := Fresh.of hW (Nat.le_refl _) (by rw [hl]; exact hn)
    rw [hl] at this
    exact gives_fresh hB this
  · refine (fill_bad A n c i m v w hn hi hm h).mono ?_
    rintro e w' ⟨rfl, rfl⟩
    exact gives_nil
theorem join_gives (A : Option Addr) (n c : Nat) (zs : List Int) (w : World) (hn : n ≤ maxLen) (hnc : n ≤ c) (ha : Arr .u64 w w.heap.size A n zs) :
    Calls Try.prog 10 #[.slice A n c] w (GivesP w) := by
  refine (Join_any A n c zs w hn hnc ha).mono ?_
  rintro e w' ⟨A', k, c', rfl, hb, h⟩
  rcases h with ⟨_, rfl, rfl, rfl⟩ | ⟨_, _, hF⟩
  · exact ⟨none, 0, 0, _, rfl, hb, Nat.le_refl _, Nat.zero_le _, .inl ⟨rfl, rfl⟩⟩
  · exact gives_fresh hb hF
theorem give_gives (A : Option Addr) (n c : Nat) (a : Int) (zs : List Int) (w : World) (hn : n ≤ maxLen) (hnc : n ≤ c) (ha : Arr .u64 w w.heap.size A n zs) :
    Calls Try.prog 12 #[.slice A n c, .int .i64 a] w (GivesP w) := by
  refine (Give_any A n c a zs w hn hnc ha).mono ?_
  rintro e w' ⟨A', k, c', rfl, hb, h⟩
  rcases h with ⟨_, rfl, rfl, rfl⟩ | ⟨_, _, hF⟩
  · exact ⟨none, 0, 0, _, rfl, hb, Nat.le_refl _, Nat.zero_le _, .inl ⟨rfl, rfl⟩⟩
  · exact gives_fresh hb hF

theorem four_slices : Try.prog.underlying 77 = some (.array 4 22) := by kernel_rfl
theorem pick_four0 (A0 A1 A2 A3 : Option Addr) (n0 c0 n1 c1 n2 c2 n3 c3 : Nat) (wx : World) : Sem.run Try.prog (Instr.index 77 (.agg #[.slice A0 n0 c0, .slice A1 n1 c1, .slice A2 n2 c2, .slice A3 n3 c3]) (.int .i64 0)) wx = .ok (.slice A0 n0 c0) wx := by
  simp [Instr.index, run_underlying four_slices, asIntOf, go_sem]
theorem pick_four1 (A0 A1 A2 A3 : Option Addr) (n0 c0 n1 c1 n2 c2 n3 c3 : Nat) (wx : World) : Sem.run Try.prog (Instr.index 77 (.agg #[.slice A0 n0 c0, .slice A1 n1 c1, .slice A2 n2 c2, .slice A3 n3 c3]) (.int .i64 1)) wx = .ok (.slice A1 n1 c1) wx := by
  simp [Instr.index, run_underlying four_slices, asIntOf, go_sem]
theorem pick_four2 (A0 A1 A2 A3 : Option Addr) (n0 c0 n1 c1 n2 c2 n3 c3 : Nat) (wx : World) : Sem.run Try.prog (Instr.index 77 (.agg #[.slice A0 n0 c0, .slice A1 n1 c1, .slice A2 n2 c2, .slice A3 n3 c3]) (.int .i64 2)) wx = .ok (.slice A2 n2 c2) wx := by
  simp [Instr.index, run_underlying four_slices, asIntOf, go_sem]
theorem pick_four3 (A0 A1 A2 A3 : Option Addr) (n0 c0 n1 c1 n2 c2 n3 c3 : Nat) (wx : World) : Sem.run Try.prog (Instr.index 77 (.agg #[.slice A0 n0 c0, .slice A1 n1 c1, .slice A2 n2 c2, .slice A3 n3 c3]) (.int .i64 3)) wx = .ok (.slice A3 n3 c3) wx := by
  simp [Instr.index, run_underlying four_slices, asIntOf, go_sem]

set_option maxHeartbeats 4000000 in
set_option maxRecDepth 16000 in
theorem wordOwn_walk (A : Option Addr) (n c : Nat) (i j m : Int) (zs : List Int) (w : World) (hn : n ≤ maxLen) (hnc : n ≤ c) (hi : (Lit.int .i64 i).wf = true) (hj : (Lit.int .i64 j).wf = true) (hm : (Lit.int .i64 m).wf = true) (hsz : n * 8 ≤ 281474976710656) (ha : Arr .u64 w w.heap.size A n zs) :
    Calls Try.prog 8 #[.slice A n c, .int .i64 i, .int .i64 j, .int .i64 m] w fun e w' => e = .returned (.bool true) ∧ Below w.heap.size w w' := by
  have HW := Lib.hid (words_any w)
  have HC := Lib.hid (fun w ha => slicesClone_fresh A n c zs w hsz ha)
  have H1 := Lib.hid (fun w ha => move_gives A n c i j m zs w hn hnc hi hj hm ha)
  have H2 := Lib.hid (fun w ha => fill_gives A n c i m 7 zs w hn hi hm (by decide) ha)
  have H3 := Lib.hid (fun w ha => join_gives A n c zs w hn hnc ha)
  have H4 := Lib.hid (fun w ha => give_gives A n c i zs w hn hnc ha)
  have HEQ := Lib.hid (fun A' c' B w hx hy => equalWords A A' n n c c' B zs zs w hx hy hn hn)
  have hdz : decide (zs = zs) = true := by simp
  rw [hdz] at HEQ
  unfold ClonedF at HC
  have HA := Lib.hid ha
  clear ha hi hj hm hdz
  go_enter Try.func8, Try.ntmps8
  go_wp2_with fail
  refine HW.out.mono ?_
  rintro e w0 ⟨rfl, hb0⟩
  have HA0 := Lib.hid ((HA.out.below hb0 (Nat.le_refl _)).more hb0.size)
  have HB0 := Lib.hid hb0
  clear hb0 HA HW
  go_wp2_with fail
  refine (HC.out _ HA0.out).mono ?_
  rintro e w1 ⟨A', c', rfl, hF, hb1⟩
  have HX := Lib.hid hF.arr
  have HA1 := Lib.hid ((HA0.out.below hb1 (Nat.le_refl _)).more hb1.size)
  have HB1 := Lib.hid (HB0.out.trans (hb1.mono HB0.out.size))
  clear hb1 HC hF HA0 HB0
  go_wp2_with fail
  refine (H1.out _ HA1.out).mono ?_
  rintro e w2 ⟨A0, n0, c0, E0, rfl, hb2, hc0, hm0, hI0⟩
  have HA2 := Lib.hid ((HA1.out.below hb2 (Nat.le_refl _)).more hb2.size)
  have HB2 := Lib.hid hb2
  have HI0 := Lib.hid hI0
  clear hb2 H1 hI0
  go_wp2_with fail
  refine (H2.out _ HA2.out).mono ?_
  rintro e w3 ⟨A1, n1, c1, E1, rfl, hb3, hc1, hm1, hI1⟩
  have HA3 := Lib.hid ((HA2.out.below hb3 (Nat.le_refl _)).more hb3.size)
  have HB3 := Lib.hid (HB2.out.trans (hb3.mono HB2.out.size))
  have HJ0 := Lib.hid (HI0.out.below hb3 (Nat.le_refl _))
  have HI1 := Lib.hid (hI1.less HB2.out.size)
  clear hb3 H2 hI1 HI0 HA2 HB2
  go_wp2_with fail
  refine (H3.out _ HA3.out).mono ?_
  rintro e w4 ⟨A2, n2, c2, E2, rfl, hb4, hc2, hm2, hI2⟩
  have HA4 := Lib.hid ((HA3.out.below hb4 (Nat.le_refl _)).more hb4.size)
  have HB4 := Lib.hid (HB3.out.trans (hb4.mono HB3.out.size))
  have HK0 := Lib.hid (HJ0.out.below hb4 (Nat.le_refl _))
  have HK1 := Lib.hid (HI1.out.below hb4 (Nat.le_refl _))
  have HI2 := Lib.hid (hI2.less HB3.out.size)
  clear hb4 H3 hI2 HJ0 HI1 HA3 HB3
  go_wp2_with fail
  refine (H4.out _ HA4.out).mono ?_
  rintro e w5 ⟨A3, n3, c3, E3, rfl, hb5, hc3, hm3, hI3⟩
  have HA5 := Lib.hid ((HA4.out.below hb5 (Nat.le_refl _)).more hb5.size)
  have HB5 := Lib.hid (HB4.out.trans (hb5.mono HB4.out.size))
  have HO : Hid (OwnI w1 A0 A1 A2 A3 c0 c1 c2 c3 w5) := ⟨HB5.out, HK0.out.below hb5 (Nat.le_refl _), HK1.out.below hb5 (Nat.le_refl _), HI2.out.below hb5 (Nat.le_refl _), hI3.less HB4.out.size⟩
  clear hb5 H4 hI3 HK0 HK1 HI2 HA4 HB4
  go_wp2_with fail
  refine (HEQ.out A' c' w5.heap.size w5 HA5.out ((HX.out.below HB5.out (Nat.le_refl _)).more HB5.out.size)).mono ?_
  rintro e w6 ⟨rfl, q, rfl⟩
  have HO6 : Hid (OwnI w1 A0 A1 A2 A3 c0 c1 c2 c3 (w5.drewN q)) := ⟨below_drewN HO.out.below q, HO.out.i0, HO.out.i1, HO.out.i2, HO.out.i3⟩
  clear HO HA5 HB5
  generalize w5.drewN q = w6 at *
  unfold maxLen at hm0 hm1 hm2 hm3
  obtain ⟨D0, hs0, hD0⟩ := run_upto (P := Try.prog) Try.underlying22 u64_one A0 n0 c0 c0 (c0 : Int) rfl (Nat.le_refl _)
  obtain ⟨D1, hs1, hD1⟩ := run_upto (P := Try.prog) Try.underlying22 u64_one A1 n1 c1 c1 (c1 : Int) rfl (Nat.le_refl _)
  obtain ⟨D2, hs2, hD2⟩ := run_upto (P := Try.prog) Try.underlying22 u64_one A2 n2 c2 c2 (c2 : Int) rfl (Nat.le_refl _)
  obtain ⟨D3, hs3, hD3⟩ := run_upto (P := Try.prog) Try.underlying22 u64_one A3 n3 c3 c3 (c3 : Int) rfl (Nat.le_refl _)
  have HD0 := Lib.hid hD0
  have HD1 := Lib.hid hD1
  have HD2 := Lib.hid hD2
  have HD3 := Lib.hid hD3
  clear hD0 hD1 hD2 hD3
  go_wp2_with fail
  go_loopw [60] (fun v wr => ∃ k : Nat, k ≤ 4 ∧ v = .int .i64 k ∧ OwnI w1 A0 A1 A2 A3 c0 c1 c2 c3 wr) (fun v _ => 4 - (intOf v).toNat)
  case atStart => exact ⟨0, by omega, rfl, HO6.out⟩
  case round =>
    obtain ⟨k, hk, rfl, hO⟩ := hrel
    have HO := Lib.hid hO
    clear hO HO6
    generalize wr = W0 at *
    rcases (by omega : k = 0 ∨ k = 1 ∨ k = 2 ∨ k = 3 ∨ k = 4) with rfl | rfl | rfl | rfl | rfl
    · have hix := pick_four0 A0 A1 A2 A3 n0 c0 n1 c1 n2 c2 n3 c3
      go_wp2_with fail
      clear hix
      go_loopw [69] (fun v wr => ∃ k : Nat, k ≤ c0 ∧ v = .int .i64 k ∧ OwnI w1 A0 A1 A2 A3 c0 c1 c2 c3 wr) (fun v _ => c0 - (intOf v).toNat)
      case atStart => exact ⟨0, by omega, rfl, HO.out⟩
      case round =>
        obtain ⟨p, hp, rfl, hO⟩ := hrel
        by_cases hlt : p < c0
        · rcases hO.i0 with ⟨_, h0⟩ | ⟨g, xs, hA, hg, hxl, _, hW⟩
          · omega
          · have hDD := HD0.out g 0 hA
            have hc := hW.cell (j := p) (by omega)
            have hf := hW.frozen p
            have HN := Lib.hid (fun z hz => hO.set hg p z hz)
            clear hO hW HO
            generalize nth xs p = X at *
            rw [hDD]
            clear hDD
            have hplt : (p : Int) < (c0 : Int) := by omega
            go_wp2
            go_roundw
            case rel => exact ⟨p + 1, by omega, by go_num, HN.out _ (wf_wrap _ _)⟩
            case measure => simp [intOf]; omega
        · obtain rfl : p = c0 := by omega
          have HO2 := Lib.hid hO
          clear hO HO
          go_wp2
          go_roundw
          case rel => exact ⟨0 + 1, by omega, by go_num, HO2.out⟩
          case measure => simp [intOf]
    · have hix := pick_four1 A0 A1 A2 A3 n0 c0 n1 c1 n2 c2 n3 c3
      go_wp2_with fail
      clear hix
      go_loopw [69] (fun v wr => ∃ k : Nat, k ≤ c1 ∧ v = .int .i64 k ∧ OwnI w1 A0 A1 A2 A3 c0 c1 c2 c3 wr) (fun v _ => c1 - (intOf v).toNat)
      case atStart => exact ⟨0, by omega, rfl, HO.out⟩
      case round =>
        obtain ⟨p, hp, rfl, hO⟩ := hrel
        by_cases hlt : p < c1
        · rcases hO.i1 with ⟨_, h0⟩ | ⟨g, xs, hA, hg, hxl, _, hW⟩
          · omega
          · have hDD := HD1.out g 0 hA
            have hc := hW.cell (j := p) (by omega)
            have hf := hW.frozen p
            have HN := Lib.hid (fun z hz => hO.set hg p z hz)
            clear hO hW HO
            generalize nth xs p = X at *
            rw [hDD]
            clear hDD
            have hplt : (p : Int) < (c1 : Int) := by omega
            go_wp2
            go_roundw
            case rel => exact ⟨p + 1, by omega, by go_num, HN.out _ (wf_wrap _ _)⟩
            case measure => simp [intOf]; omega
        · obtain rfl : p = c1 := by omega
          have HO2 := Lib.hid hO
          clear hO HO
          go_wp2
          go_roundw
          case rel => exact ⟨1 + 1, by omega, by go_num, HO2.out⟩
          case measure => simp [intOf]
    · have hix := pick_four2 A0 A1 A2 A3 n0 c0 n1 c1 n2 c2 n3 c3
      go_wp2_with fail
      clear hix
      go_loopw [69] (fun v wr => ∃ k : Nat, k ≤ c2 ∧ v = .int .i64 k ∧ OwnI w1 A0 A1 A2 A3 c0 c1 c2 c3 wr) (fun v _ => c2 - (intOf v).toNat)
      case atStart => exact ⟨0, by omega, rfl, HO.out⟩
      case round =>
        obtain ⟨p, hp, rfl, hO⟩ := hrel
        by_cases hlt : p < c2
        · rcases hO.i2 with ⟨_, h0⟩ | ⟨g, xs, hA, hg, hxl, _, hW⟩
          · omega
          · have hDD := HD2.out g 0 hA
            have hc := hW.cell (j := p) (by omega)
            have hf := hW.frozen p
            have HN := Lib.hid (fun z hz => hO.set hg p z hz)
            clear hO hW HO
            generalize nth xs p = X at *
            rw [hDD]
            clear hDD
            have hplt : (p : Int) < (c2 : Int) := by omega
            go_wp2
            go_roundw
            case rel => exact ⟨p + 1, by omega, by go_num, HN.out _ (wf_wrap _ _)⟩
            case measure => simp [intOf]; omega
        · obtain rfl : p = c2 := by omega
          have HO2 := Lib.hid hO
          clear hO HO
          go_wp2
          go_roundw
          case rel => exact ⟨2 + 1, by omega, by go_num, HO2.out⟩
          case measure => simp [intOf]
    · have hix := pick_four3 A0 A1 A2 A3 n0 c0 n1 c1 n2 c2 n3 c3
      go_wp2_with fail
      clear hix
      go_loopw [69] (fun v wr => ∃ k : Nat, k ≤ c3 ∧ v = .int .i64 k ∧ OwnI w1 A0 A1 A2 A3 c0 c1 c2 c3 wr) (fun v _ => c3 - (intOf v).toNat)
      case atStart => exact ⟨0, by omega, rfl, HO.out⟩
      case round =>
        obtain ⟨p, hp, rfl, hO⟩ := hrel
        by_cases hlt : p < c3
        · rcases hO.i3 with ⟨_, h0⟩ | ⟨g, xs, hA, hg, hxl, _, hW⟩
          · omega
          · have hDD := HD3.out g 0 hA
            have hc := hW.cell (j := p) (by omega)
            have hf := hW.frozen p
            have HN := Lib.hid (fun z hz => hO.set hg p z hz)
            clear hO hW HO
            generalize nth xs p = X at *
            rw [hDD]
            clear hDD
            have hplt : (p : Int) < (c3 : Int) := by omega
            go_wp2
            go_roundw
            case rel => exact ⟨p + 1, by omega, by go_num, HN.out _ (wf_wrap _ _)⟩
            case measure => simp [intOf]; omega
        · obtain rfl : p = c3 := by omega
          have HO2 := Lib.hid hO
          clear hO HO
          go_wp2
          go_roundw
          case rel => exact ⟨3 + 1, by omega, by go_num, HO2.out⟩
          case measure => simp [intOf]
    · have HX2 := Lib.hid (HX.out.below HO.out.below (Nat.le_refl _))
      have HA2 := Lib.hid (HA1.out.below HO.out.below (Nat.le_refl _))
      have HB := Lib.hid (HB1.out.trans (HO.out.below.mono HB1.out.size))
      clear HO HX HA1
      go_wp2_with fail
      refine (HEQ.out A' c' w1.heap.size W0 HA2.out HX2.out).mono ?_
      rintro e w7 ⟨rfl, q, rfl⟩
      go_wp2
      go_ret
      exact ⟨rfl, below_drewN HB.out q⟩
end Go.Proofs.Ytggjgcnmkkoheaa
