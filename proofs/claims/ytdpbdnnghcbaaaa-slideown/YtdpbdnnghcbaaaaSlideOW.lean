/-
  The walk of SlideOwn, given what Copy answers ('CopyC').
-/
import Derived.Test.YtdpbdnnghcbaaaaSlideE
import Derived.Test.YtdpbdnnghcbaaaaCarryE
import Derived.Test.YtdpbdnnghcbaaaaCloneJ
import Derived.Test.YtdpbdnnghcbaaaaCloneF
import Derived.OpenShut
namespace Go.Proofs.Ytdpbdnnghcbaaaa
open Go.RowKit

/-- What is left as it was: three slices are compared with their copies. -/
theorem slideSame_any (A F P A' F' P' : Option Addr) (n c nf cf np cp c' cf' cp' g0 g1 g2 g3 g4 g5 B : Nat) (zs fr ps : List Int) (w : World) (hn : n ≤ maxLen) (hnf : nf ≤ maxLen) (hnp : np ≤ maxLen)
    (x0 : w.cell? ⟨g0, 0, none⟩ = some (.slice A n c)) (x1 : w.cell? ⟨g1, 0, none⟩ = some (.slice A' n c')) (x2 : w.cell? ⟨g2, 0, none⟩ = some (.slice F nf cf)) (x3 : w.cell? ⟨g3, 0, none⟩ = some (.slice F' nf cf')) (x4 : w.cell? ⟨g4, 0, none⟩ = some (.slice P np cp)) (x5 : w.cell? ⟨g5, 0, none⟩ = some (.slice P' np cp'))
    (ha : Arr .u64 w B A n zs) (ha' : Arr .u64 w B A' n zs) (hf : Arr .i64 w B F nf fr) (hf' : Arr .i64 w B F' nf fr) (hp : Arr .i64 w B P np ps) (hp' : Arr .i64 w B P' np ps) :
    Calls Try.prog 25 #[.pointer (some ⟨g0, 0, none⟩), .pointer (some ⟨g1, 0, none⟩), .pointer (some ⟨g2, 0, none⟩), .pointer (some ⟨g3, 0, none⟩), .pointer (some ⟨g4, 0, none⟩), .pointer (some ⟨g5, 0, none⟩)] w fun e w' => e = .returned (.bool true) ∧ ∃ q, w.drewN q = w' := by
  have HE1 := Lib.hid (equalWords A A' n n c c' B _ _ w ha ha' hn hn)
  rw [show decide (zs = zs) = true by simp] at HE1
  have HE2 := Lib.hid (fun x => equalInts F F' nf nf cf cf' B _ _ (w.drewN x) (hf.drewN x) (hf'.drewN x) hnf hnf)
  rw [show decide (fr = fr) = true by simp] at HE2
  have HE3 := Lib.hid (fun x => equalInts P P' np np cp cp' B _ _ (w.drewN x) (hp.drewN x) (hp'.drewN x) hnp hnp)
  rw [show decide (ps = ps) = true by simp] at HE3
  clear ha ha' hf hf' hp hp' hn hnf hnp
  go_enter Try.func25, Try.ntmps25
  go_wp2_with fail
  refine HE1.out.mono ?_
  rintro e w1 ⟨rfl, q1, rfl⟩
  go_wp2_with fail
  refine (HE2.out q1).mono ?_
  rintro e w2 ⟨rfl, q2, rfl⟩
  go_wp2_with fail
  refine (HE3.out (q1 + q2)).mono ?_
  rintro e w3 ⟨rfl, q3, rfl⟩
  go_wp2
  go_ret
  exact ⟨rfl, _, rfl⟩

/-- What holds while SlideOwn writes into what was told. -/
structure OwnS (W : World) (B C N O D L : Option Addr) (cb cc cn co cd cl : Nat) (wr : World) : Prop where
  below : Below W.heap.size W wr
  i0 : SpareI .u64 40 W.heap.size wr B cb
  i1 : SpareI .u64 40 W.heap.size wr C cc
  j0 : SpareI .i64 3 W.heap.size wr N cn
  j1 : SpareI .i64 3 W.heap.size wr O co
  j2 : SpareI .i64 3 W.heap.size wr D cd
  j3 : SpareI .i64 3 W.heap.size wr L cl
structure OwnT (W : World) (N O D L : Option Addr) (cn co cd cl : Nat) (wr : World) : Prop where
  below : Below W.heap.size W wr
  j0 : SpareI .i64 3 W.heap.size wr N cn
  j1 : SpareI .i64 3 W.heap.size wr O co
  j2 : SpareI .i64 3 W.heap.size wr D cd
  j3 : SpareI .i64 3 W.heap.size wr L cl
section
variable {W wr : World} {B C N O D L : Option Addr} {cb cc cn co cd cl g : Nat}
theorem OwnS.set {xs : List Int} (h : OwnS W B C N O D L cb cc cn co cd cl wr) (hg : W.heap.size ≤ g) (hW : Whole .u64 40 wr g xs) (j : Nat) (z : Int) (hz : (Lit.int .u64 z).wf = true) : OwnS W B C N O D L cb cc cn co cd cl (wr.setCell ⟨g, j, none⟩ (.int .u64 z)) :=
  ⟨below_set h.below hg _ _, h.i0.set g j z hz, h.i1.set g j z hz, h.j0.other hW (by decide) j _, h.j1.other hW (by decide) j _, h.j2.other hW (by decide) j _, h.j3.other hW (by decide) j _⟩
theorem OwnT.set (h : OwnT W N O D L cn co cd cl wr) (hg : W.heap.size ≤ g) (j : Nat) (z : Int) (hz : (Lit.int .i64 z).wf = true) : OwnT W N O D L cn co cd cl (wr.setCell ⟨g, j, none⟩ (.int .i64 z)) :=
  ⟨below_set h.below hg _ _, h.j0.set g j z hz, h.j1.set g j z hz, h.j2.set g j z hz, h.j3.set g j z hz⟩
end
theorem two_slices : Try.prog.underlying 52 = some (.array 2 22) := by kernel_rfl
theorem four_ints : Try.prog.underlying 53 = some (.array 4 23) := by kernel_rfl
theorem pick_two0 (A0 A1 : Option Addr) (n0 c0 n1 c1 : Nat) (wx : World) : Sem.run Try.prog (Instr.index 52 (.agg #[.slice A0 n0 c0, .slice A1 n1 c1]) (.int .i64 0)) wx = .ok (.slice A0 n0 c0) wx := by
  simp [Instr.index, run_underlying two_slices, asIntOf, go_sem]
theorem pick_two1 (A0 A1 : Option Addr) (n0 c0 n1 c1 : Nat) (wx : World) : Sem.run Try.prog (Instr.index 52 (.agg #[.slice A0 n0 c0, .slice A1 n1 c1]) (.int .i64 1)) wx = .ok (.slice A1 n1 c1) wx := by
  simp [Instr.index, run_underlying two_slices, asIntOf, go_sem]
theorem pick_ints0 (A0 A1 A2 A3 : Option Addr) (n0 c0 n1 c1 n2 c2 n3 c3 : Nat) (wx : World) : Sem.run Try.prog (Instr.index 53 (.agg #[.slice A0 n0 c0, .slice A1 n1 c1, .slice A2 n2 c2, .slice A3 n3 c3]) (.int .i64 0)) wx = .ok (.slice A0 n0 c0) wx := by
  simp [Instr.index, run_underlying four_ints, asIntOf, go_sem]
theorem pick_ints1 (A0 A1 A2 A3 : Option Addr) (n0 c0 n1 c1 n2 c2 n3 c3 : Nat) (wx : World) : Sem.run Try.prog (Instr.index 53 (.agg #[.slice A0 n0 c0, .slice A1 n1 c1, .slice A2 n2 c2, .slice A3 n3 c3]) (.int .i64 1)) wx = .ok (.slice A1 n1 c1) wx := by
  simp [Instr.index, run_underlying four_ints, asIntOf, go_sem]
theorem pick_ints2 (A0 A1 A2 A3 : Option Addr) (n0 c0 n1 c1 n2 c2 n3 c3 : Nat) (wx : World) : Sem.run Try.prog (Instr.index 53 (.agg #[.slice A0 n0 c0, .slice A1 n1 c1, .slice A2 n2 c2, .slice A3 n3 c3]) (.int .i64 2)) wx = .ok (.slice A2 n2 c2) wx := by
  simp [Instr.index, run_underlying four_ints, asIntOf, go_sem]
theorem pick_ints3 (A0 A1 A2 A3 : Option Addr) (n0 c0 n1 c1 n2 c2 n3 c3 : Nat) (wx : World) : Sem.run Try.prog (Instr.index 53 (.agg #[.slice A0 n0 c0, .slice A1 n1 c1, .slice A2 n2 c2, .slice A3 n3 c3]) (.int .i64 3)) wx = .ok (.slice A3 n3 c3) wx := by
  simp [Instr.index, run_underlying four_ints, asIntOf, go_sem]
/-- The copies are what is copied. -/
def goodS (zs fr ps : List Int) (B : Nat) : Nat → Value → World → Prop
  | 0 => fun v w => OwnF .u64 40 w B v zs
  | 1 => fun v w => OwnF .i64 3 w B v fr
  | _ => fun v w => OwnF .i64 3 w B v ps
def tyS : Nat → TypeId
  | 0 => 22
  | _ => 23
theorem OwnF.other {k : IntKind} {e t : TypeId} {w : World} {base g : Nat} {v x : Value} {xs : List Int} (h : OwnF k e w base v xs) (hB : Box w g t #[x]) (ht : t ≠ e) (d : Value) : OwnF k e (w.setCell ⟨g, 0, none⟩ d) base v xs := by
  rcases h with h | ⟨g', c, sp, h1, h2, h3, h4, hW⟩
  · exact .inl h
  · refine .inr ⟨g', c, sp, h1, h2, h3, h4, ?_, hW.2⟩
    have hne : g ≠ g' := by
      rintro rfl
      have h5 := hB.symm.trans hW.1
      injection h5 with h5
      injection h5 with _ h6
      exact ht h6
    rw [← hW.1]
    show (w.heap.modify g _)[g']? = _
    rw [Array.getElem?_modify, if_neg hne]
theorem stayS (zs fr ps : List Int) (B : Nat) : Stays (goodS zs fr ps B) tyS :=
  ⟨fun i v w w' h hb => by
    rcases i with _ | _ | i
    · exact OwnF.below h hb (Nat.le_refl _)
    · exact OwnF.below h hb (Nat.le_refl _)
    · exact OwnF.below h hb (Nat.le_refl _), fun i j g x v w d h hB => by
    rcases i with _ | _ | i <;> rcases j with _ | j
    · exact OwnF.other h hB (by decide) d
    · exact OwnF.other h hB (show 23 ≠ 40 by decide) d
    · exact OwnF.other h hB (by decide) d
    · exact OwnF.other h hB (show 23 ≠ 3 by decide) d
    · exact OwnF.other h hB (by decide) d
    · exact OwnF.other h hB (show 23 ≠ 3 by decide) d⟩

set_option maxRecDepth 16000 in
set_option maxHeartbeats 8000000 in
theorem slideOwn_of (hC : CopyC) (A F P : Option Addr) (n c nf cf np cp : Nat) (zs fr ps : List Int) (w : World) (hn : n ≤ maxLen) (hnc : n ≤ c) (ha : Arr .u64 w w.heap.size A n zs) (sz0 : n * 8 ≤ 281474976710656) (hnf : nf * 8 ≤ 140737488351232) (hf : Arr .i64 w w.heap.size F nf fr) (hnp : np * 8 ≤ 140737488351232) (hp : Arr .i64 w w.heap.size P np ps) :
    Calls Try.prog 5 #[.slice A n c, .slice F nf cf, .slice P np cp] w fun e w' => e = .returned (.bool true) ∧ Below w.heap.size w w' := by
  have HA := Lib.hid ha
  have HF := Lib.hid hf
  have HP := Lib.hid hp
  have HN : Hid (n ≤ maxLen ∧ nf ≤ maxLen ∧ np ≤ maxLen ∧ n * 8 ≤ 281474976710656 ∧ nf * 8 ≤ 140737488351232 ∧ np * 8 ≤ 140737488351232) := ⟨hn, by unfold maxLen; omega, by unfold maxLen; omega, sz0, hnf, hnp⟩
  have HSL := Lib.hid (fun wx => slides_any clean_any wx)
  have HCC := Lib.hid (fun wx (hb : Below w.heap.size w wx) => hC A F n c nf cf n zs fr wx hn hnc (ha.later hb) hnf (hf.later hb) (wf_i64.2 (by unfold maxLen at hn; omega)))
  have b1 := (Below.refl w.heap.size w).alloc (Nat.le_refl _) (.cells #[.slice A n c] 22)
  have b2 := b1.alloc b1.size (.cells #[.slice F nf cf] 23)
  have b3 := b2.alloc b2.size (.cells #[.slice P np cp] 23)
  have y0 := ((Box.new w 22 #[.slice A n c]).alloc (.cells #[.slice F nf cf] 23)).alloc (.cells #[.slice P np cp] 23)
  have y1 := (Box.new (w.alloc (.cells #[.slice A n c] 22)) 23 #[.slice F nf cf]).alloc (.cells #[.slice P np cp] 23)
  have y2 := Box.new ((w.alloc (.cells #[.slice A n c] 22)).alloc (.cells #[.slice F nf cf] 23)) 23 #[.slice P np cp]
  have e1 : (w.alloc (.cells #[.slice A n c] 22)).heap.size = w.heap.size + 1 := by simp
  have e2 : ((w.alloc (.cells #[.slice A n c] 22)).alloc (.cells #[.slice F nf cf] 23)).heap.size = w.heap.size + 1 + 1 := by simp
  rw [e1] at y1
  rw [e2] at y2
  have HY0 := Lib.hid y0
  have HY1 := Lib.hid y1
  have HY2 := Lib.hid y2
  have HB0 := Lib.hid b3
  clear ha hf hp hn hnf hnp hC b1 b2 b3 y0 y1 y2 e1 e2 sz0
  go_enter Try.func5, Try.ntmps5
  go_wp2_with fail
  refine (HSL.out _).mono ?_
  rintro e w1 ⟨rfl, b1⟩
  have HB1 := Lib.hid (bthen HB0.out b1)
  have HZ0 := Lib.hid (HY0.out.below b1 HY0.out.lt)
  have HZ1 := Lib.hid (HY1.out.below b1 HY1.out.lt)
  have HZ2 := Lib.hid (HY2.out.below b1 HY2.out.lt)
  have z0 : w1.cell? ⟨w.heap.size, 0, none⟩ = some (.slice A n c) := HZ0.out.cell 0
  have z1 : w1.cell? ⟨w.heap.size + 1, 0, none⟩ = some (.slice F nf cf) := HZ1.out.cell 0
  have z2 : w1.cell? ⟨w.heap.size + 1 + 1, 0, none⟩ = some (.slice P np cp) := HZ2.out.cell 0
  clear b1 HB0 HY0 HY1 HY2 HSL
  -- REGION 3
  go_wp2_with fail
  refine wp_region_inv (fun listed a' w' => ∃ v7 v8 v9 v29 v30 v31 v32 v33 v34, a' = { tmps := #[.slice A n c, .slice F nf cf, .slice P np cp, .pointer (some ⟨w.heap.size, 0, none⟩), .pointer (some ⟨w.heap.size + 1, 0, none⟩), .pointer (some ⟨w.heap.size + 1 + 1, 0, none⟩), .bool false, v7, v8, v9, undef, undef, undef, undef, undef, undef, undef, undef, undef, undef, undef, undef, undef, undef, undef, undef, undef, .bool true, .bool false, v29, v30, v31, v32, v33, v34, undef, undef, undef, undef, undef, undef, undef, undef, undef, undef, undef, undef, undef, undef, undef, undef, undef, undef, undef, undef, undef, undef, undef, undef, undef, undef, undef, undef, undef, undef, undef, undef, undef, undef, undef, undef, undef, undef, undef, undef, undef, undef, undef, undef, undef, undef, undef, undef, undef, undef, undef, undef, undef, undef, undef, undef, undef, undef, undef, undef, undef, undef, undef, undef, undef, undef, undef, undef, undef, undef, undef, undef, undef, undef, undef, undef, undef, undef, undef, undef], defers := [] } ∧ CloneJ 3 w1 (fn3 (.slice A n c) (.slice F nf cf) (.slice P np cp)) (goodS zs fr ps w1.heap.size) tyS listed (fn3 v29 v31 v33) (fn3 v30 v32 v34) (fn3 v7 v8 v9) w') (by kernel_rfl) ⟨_, _, _, _, _, _, _, _, _, rfl, CloneJ.start⟩ ?_ ?_
  · rintro listed a' w' ⟨v7, v8, v9, v29, v30, v31, v32, v33, v34, rfl, hJ⟩ i hi
    obtain ⟨hun, o, ho, hd⟩ := mem_ready.1 hi
    have hi8 : i < 12 := (Array.getElem?_eq_some_iff.1 ho).1
    have hst := stayS zs fr ps w1.heap.size
    have hbw : Below w.heap.size w w' := HB1.out.trans (hJ.below.mono HB1.out.size)
    rcases (by omega : i = 0 ∨ i = 1 ∨ i = 2 ∨ i = 3 ∨ i = 4 ∨ i = 5 ∨ i = 6 ∨ i = 7 ∨ i = 8 ∨ i = 9 ∨ i = 10 ∨ i = 11) with rfl | rfl | rfl | rfl | rfl | rfl | rfl | rfl | rfl | rfl | rfl | rfl
    · refine wpOp_step rfl fun K' hK => ?_
      have q := (hJ.below.cell (p := ⟨w.heap.size, 0, none⟩) HZ0.out.lt).trans z0
      go_simp
      exact hK _ _ ⟨_, _, _, _, _, _, _, _, _, rfl, hJ.load (i := 0) (by omega) rfl (fun j hl hj => by rcases j with _ | _ | _ | j <;> first | rfl | exact absurd rfl hj | omega)⟩
    · have d0 := hd ⟨0, .data⟩ (by obtain rfl := Option.some.inj ho; simp) rfl
      have e0 : v29 = .slice A n c := hJ.hl 0 (by omega) d0
      subst e0
      have nY := hJ.notYet (i := 0) (by omega) (.inr hun)
      have HK := Lib.hid (cloneWordsF A n c zs w' HN.out.2.2.2.1 (HA.out.later hbw))
      refine wpOp_step rfl fun K' hK => ?_
      go_simp
      refine HK.out.mono ?_
      rintro e w3 ⟨A3, c3, rfl, hF, b3⟩
      exact hK _ _ ⟨_, _, _, _, _, _, _, _, _, rfl, hJ.call hst (i := 0) (by omega) nY b3 (show OwnF _ _ _ _ _ _ from hF.lessF hJ.below.size) (fun j hl hj => by rcases j with _ | _ | _ | j <;> first | rfl | exact absurd rfl hj | omega)⟩
    · refine wpOp_step rfl fun K' hK => ?_
      have q := (hJ.below.cell (p := ⟨w.heap.size + 1, 0, none⟩) HZ1.out.lt).trans z1
      go_simp
      exact hK _ _ ⟨_, _, _, _, _, _, _, _, _, rfl, hJ.load (i := 1) (by omega) rfl (fun j hl hj => by rcases j with _ | _ | _ | j <;> first | rfl | exact absurd rfl hj | omega)⟩
    · have d0 := hd ⟨2, .data⟩ (by obtain rfl := Option.some.inj ho; simp) rfl
      have e0 : v31 = .slice F nf cf := hJ.hl 1 (by omega) d0
      subst e0
      have nY := hJ.notYet (i := 1) (by omega) (.inr hun)
      have HK := Lib.hid (cloneIntsF F nf cf fr w' (by have := HN.out.2.2.2.2.1; omega) (HF.out.later hbw))
      refine wpOp_step rfl fun K' hK => ?_
      go_simp
      refine HK.out.mono ?_
      rintro e w3 ⟨A3, c3, rfl, hF, b3⟩
      exact hK _ _ ⟨_, _, _, _, _, _, _, _, _, rfl, hJ.call hst (i := 1) (by omega) nY b3 (show OwnF _ _ _ _ _ _ from hF.lessF hJ.below.size) (fun j hl hj => by rcases j with _ | _ | _ | j <;> first | rfl | exact absurd rfl hj | omega)⟩
    · refine wpOp_step rfl fun K' hK => ?_
      have q := (hJ.below.cell (p := ⟨w.heap.size + 1 + 1, 0, none⟩) HZ2.out.lt).trans z2
      go_simp
      exact hK _ _ ⟨_, _, _, _, _, _, _, _, _, rfl, hJ.load (i := 2) (by omega) rfl (fun j hl hj => by rcases j with _ | _ | _ | j <;> first | rfl | exact absurd rfl hj | omega)⟩
    · have d0 := hd ⟨4, .data⟩ (by obtain rfl := Option.some.inj ho; simp) rfl
      have e0 : v33 = .slice P np cp := hJ.hl 2 (by omega) d0
      subst e0
      have nY := hJ.notYet (i := 2) (by omega) (.inr hun)
      have HK := Lib.hid (cloneIntsF P np cp ps w' (by have := HN.out.2.2.2.2.2; omega) (HP.out.later hbw))
      refine wpOp_step rfl fun K' hK => ?_
      go_simp
      refine HK.out.mono ?_
      rintro e w3 ⟨A3, c3, rfl, hF, b3⟩
      exact hK _ _ ⟨_, _, _, _, _, _, _, _, _, rfl, hJ.call hst (i := 2) (by omega) nY b3 (show OwnF _ _ _ _ _ _ from hF.lessF hJ.below.size) (fun j hl hj => by rcases j with _ | _ | _ | j <;> first | rfl | exact absurd rfl hj | omega)⟩
    · have nY := hJ.notYet (i := 0) (by omega) (.inl hun)
      refine wpOp_step rfl fun K' hK => ?_
      go_simp
      exact hK _ _ ⟨_, _, _, _, _, _, _, _, _, rfl, hJ.make hst (i := 0) (by omega) nY (.slice none 0 0) rfl (fun j hl hj => by rcases j with _ | _ | _ | j <;> first | rfl | exact absurd rfl hj | omega)⟩
    · have nY := hJ.notYet (i := 1) (by omega) (.inl hun)
      refine wpOp_step rfl fun K' hK => ?_
      go_simp
      exact hK _ _ ⟨_, _, _, _, _, _, _, _, _, rfl, hJ.make hst (i := 1) (by omega) nY (.slice none 0 0) rfl (fun j hl hj => by rcases j with _ | _ | _ | j <;> first | rfl | exact absurd rfl hj | omega)⟩
    · have nY := hJ.notYet (i := 2) (by omega) (.inl hun)
      refine wpOp_step rfl fun K' hK => ?_
      go_simp
      exact hK _ _ ⟨_, _, _, _, _, _, _, _, _, rfl, hJ.make hst (i := 2) (by omega) nY (.slice none 0 0) rfl (fun j hl hj => by rcases j with _ | _ | _ | j <;> first | rfl | exact absurd rfl hj | omega)⟩
    · have d6 := hd ⟨6, .data⟩ (by obtain rfl := Option.some.inj ho; simp) rfl
      have d1 := hd ⟨1, .data⟩ (by obtain rfl := Option.some.inj ho; simp) rfl
      obtain ⟨g, x, e0, hg, hB, _⟩ := hJ.ha 0 (by omega) d6
      have e0 : v7 = .pointer (some ⟨g, 0, none⟩) := e0
      subst e0
      obtain ⟨A3, c3, e3, _⟩ := OwnF.arr (hJ.hc 0 (by omega) d1)
      have e3 : v30 = _ := e3
      subst e3
      have t0 : w'.cell? ⟨g, 0, none⟩ = some x := hB.cell 0
      have t1 := hB.soft 0
      refine wpOp_step rfl fun K' hK => ?_
      go_simp
      exact hK _ _ ⟨_, _, _, _, _, _, _, _, _, rfl, hJ.put hst (i := 0) (by omega) rfl hg hB d6 d1⟩
    · have d6 := hd ⟨7, .data⟩ (by obtain rfl := Option.some.inj ho; simp) rfl
      have d1 := hd ⟨3, .data⟩ (by obtain rfl := Option.some.inj ho; simp) rfl
      obtain ⟨g, x, e0, hg, hB, _⟩ := hJ.ha 1 (by omega) d6
      have e0 : v8 = .pointer (some ⟨g, 0, none⟩) := e0
      subst e0
      obtain ⟨A3, c3, e3, _⟩ := OwnF.arr (hJ.hc 1 (by omega) d1)
      have e3 : v32 = _ := e3
      subst e3
      have t0 : w'.cell? ⟨g, 0, none⟩ = some x := hB.cell 0
      have t1 := hB.soft 0
      refine wpOp_step rfl fun K' hK => ?_
      go_simp
      exact hK _ _ ⟨_, _, _, _, _, _, _, _, _, rfl, hJ.put hst (i := 1) (by omega) rfl hg hB d6 d1⟩
    · have d6 := hd ⟨8, .data⟩ (by obtain rfl := Option.some.inj ho; simp) rfl
      have d1 := hd ⟨5, .data⟩ (by obtain rfl := Option.some.inj ho; simp) rfl
      obtain ⟨g, x, e0, hg, hB, _⟩ := hJ.ha 2 (by omega) d6
      have e0 : v9 = .pointer (some ⟨g, 0, none⟩) := e0
      subst e0
      obtain ⟨A3, c3, e3, _⟩ := OwnF.arr (hJ.hc 2 (by omega) d1)
      have e3 : v34 = _ := e3
      subst e3
      have t0 : w'.cell? ⟨g, 0, none⟩ = some x := hB.cell 0
      have t1 := hB.soft 0
      refine wpOp_step rfl fun K' hK => ?_
      go_simp
      exact hK _ _ ⟨_, _, _, _, _, _, _, _, _, rfl, hJ.put hst (i := 2) (by omega) rfl hg hB d6 d1⟩
  · rintro listed a' w' ⟨v7, v8, v9, v29, v30, v31, v32, v33, v34, rfl, hJ⟩ hr
    have hall := all_listed (by rw [hJ.size]; rfl) (by kernel_rfl) hr
    have hD := hJ.done fun j hj => hall j hj
    obtain ⟨hG0, g0, e0, hg0, hX0⟩ := hD 0 (by omega)
    have e0 : v7 = .pointer (some ⟨g0, 0, none⟩) := e0
    subst e0
    obtain ⟨A0', c0', f0, _, hA0, _⟩ := OwnF.arr hG0
    have f0 : v30 = _ := f0
    subst f0
    obtain ⟨hG1, g1, e1, hg1, hX1⟩ := hD 1 (by omega)
    have e1 : v8 = .pointer (some ⟨g1, 0, none⟩) := e1
    subst e1
    obtain ⟨A1', c1', f1, _, hA1, _⟩ := OwnF.arr hG1
    have f1 : v32 = _ := f1
    subst f1
    obtain ⟨hG2, g2, e2, hg2, hX2⟩ := hD 2 (by omega)
    have e2 : v9 = .pointer (some ⟨g2, 0, none⟩) := e2
    subst e2
    obtain ⟨A2', c2', f2, _, hA2, _⟩ := OwnF.arr hG2
    have f2 : v34 = _ := f2
    subst f2
    have hbw := hJ.below
    clear hr hall hD hJ hG0 hG1 hG2 z0 z1 z2
    dsimp (config := { zeta := true }) only
    have hl0 := HA.out.1
    have hl1 := HF.out.1
    have hl2 := HP.out.1
    rw [hl0] at hA0 hX0 ⊢
    rw [hl1] at hA1 hX0 hX1 hX2 ⊢
    rw [hl2] at hA2 hX0 hX1 hX2 ⊢
    have hX0 : Box w' g0 22 #[.slice A0' n c0'] := hX0
    have hX1 : Box w' g1 23 #[.slice A1' nf c1'] := hX1
    have hX2 : Box w' g2 23 #[.slice A2' np c2'] := hX2
    have HBW := Lib.hid (HB1.out.trans (hbw.mono HB1.out.size))
    have HZ0 := Lib.hid (HZ0.out.below hbw HZ0.out.lt)
    have HZ1 := Lib.hid (HZ1.out.below hbw HZ1.out.lt)
    have HZ2 := Lib.hid (HZ2.out.below hbw HZ2.out.lt)
    generalize w' = W at *
    have HC := Lib.hid (fun wx (hb : Below W.heap.size W wx) => slideSame_any A F P A0' A1' A2' n c nf cf np cp c0' c1' c2' w.heap.size g0 (w.heap.size + 1) g1 (w.heap.size + 1 + 1) g2 W.heap.size zs fr ps wx HN.out.1 HN.out.2.1 HN.out.2.2.1
      ((HZ0.out.below hb HZ0.out.lt).cell 0) ((hX0.below hb hX0.lt).cell 0) ((HZ1.out.below hb HZ1.out.lt).cell 0) ((hX1.below hb hX1.lt).cell 0) ((HZ2.out.below hb HZ2.out.lt).cell 0) ((hX2.below hb hX2.lt).cell 0)
      ((HA.out.later HBW.out).below hb (Nat.le_refl _)) (hA0.below hb (Nat.le_refl _)) ((HF.out.later HBW.out).below hb (Nat.le_refl _)) (hA1.below hb (Nat.le_refl _)) ((HP.out.later HBW.out).below hb (Nat.le_refl _)) (hA2.below hb (Nat.le_refl _)))
    have HY : Hid (∀ wx, Below W.heap.size W wx → wx.cell? ⟨w.heap.size, 0, none⟩ = some (.slice A n c) ∧ wx.cell? ⟨w.heap.size + 1, 0, none⟩ = some (.slice F nf cf) ∧ wx.cell? ⟨w.heap.size + 1 + 1, 0, none⟩ = some (.slice P np cp)) := fun wx hb => ⟨(HZ0.out.below hb HZ0.out.lt).cell 0, (HZ1.out.below hb HZ1.out.lt).cell 0, (HZ2.out.below hb HZ2.out.lt).cell 0⟩
    have H1 := Lib.hid (cleanF_any A F P n c nf cf np cp zs fr ps W HN.out.1 hnc (HA.out.later HBW.out) HN.out.2.2.2.2.1 (HF.out.later HBW.out) HN.out.2.2.2.2.2 (HP.out.later HBW.out))
    clear hA0 hA1 hA2 hX0 hX1 hX2 hbw hg0 hg1 hg2 hl0 hl1 hl2 HB1
    obtain ⟨y0, y1, y2⟩ := HY.out W (Below.refl _ _)
    go_wp2_with fail
    clear y0 y1 y2
    refine H1.out.mono ?_
    rintro e w2 ⟨B, m2, cb, N, q2, cn, rfl, b2, _, _, _, sB, sN⟩
    have HB2 := Lib.hid b2
    have HSB := Lib.hid sB
    have HSN := Lib.hid sN
    have H2 := Lib.hid (HCC.out w2 (bthen HBW.out b2))
    obtain ⟨y0, y1, y2⟩ := HY.out w2 b2
    clear b2 sB sN H1 HCC
    go_wp2_with fail
    clear y0 y1 y2
    refine H2.out.mono ?_
    rintro e w3 ⟨C, m3, cc, O, p3, co, D, q3, cd, rfl, b3, _, _, _, _, _, _, sC, sO, sD⟩
    have HB3 := Lib.hid (bthen HB2.out b3)
    have HSB3 := Lib.hid (HSB.out.below b3 (Nat.le_refl _))
    have HSN3 := Lib.hid (HSN.out.below b3 (Nat.le_refl _))
    have HSC := Lib.hid (sC.less HB2.out.size)
    have HSO := Lib.hid (sO.less HB2.out.size)
    have HSD := Lib.hid (sD.less HB2.out.size)
    have H3 := Lib.hid (reachF_any A F n c nf cf zs fr w3 HN.out.1 hnc (HA.out.later (bthen HBW.out HB3.out)) HN.out.2.1 (HF.out.later (bthen HBW.out HB3.out)))
    obtain ⟨y0, y1, y2⟩ := HY.out w3 HB3.out
    clear b3 sC sO sD H2 HB2 HSB HSN
    go_wp2_with fail
    clear y0 y1 y2
    refine H3.out.mono ?_
    rintro e w4 ⟨L, k4, cl, rfl, b4, _, sL, _⟩
    have HB4 := Lib.hid (bthen HB3.out b4)
    have HO4 : Hid (OwnS W B C N O D L cb cc cn co cd cl w4) := ⟨HB4.out, HSB3.out.below b4 (Nat.le_refl _), HSC.out.below b4 (Nat.le_refl _), HSN3.out.below b4 (Nat.le_refl _), HSO.out.below b4 (Nat.le_refl _), HSD.out.below b4 (Nat.le_refl _), sL.less HB3.out.size⟩
    have H4 := Lib.hid (HC.out w4 HB4.out)
    clear b4 sL H3 HB3 HB4 HSB3 HSC HSN3 HSO HSD
    go_wp2_with fail
    refine H4.out.mono ?_
    rintro e w5 ⟨rfl, q5, rfl⟩
    have HO5 : Hid (OwnS W B C N O D L cb cc cn co cd cl (w4.drewN q5)) := ⟨below_drewN HO4.out.below q5, HO4.out.i0, HO4.out.i1, HO4.out.j0, HO4.out.j1, HO4.out.j2, HO4.out.j3⟩
    clear H4 HO4
    generalize w4.drewN q5 = W5 at *
    have hm0 := HO5.out.i0.cap
    have hm1 := HO5.out.i1.cap
    unfold maxLen at hm0 hm1
    obtain ⟨D0, hs0, hD0⟩ := run_upto (P := Try.prog) Try.underlying22 u64_one B m2 cb cb (cb : Int) rfl (Nat.le_refl _)
    obtain ⟨D1, hs1, hD1⟩ := run_upto (P := Try.prog) Try.underlying22 u64_one C m3 cc cc (cc : Int) rfl (Nat.le_refl _)
    have HD0 := Lib.hid hD0
    have HD1 := Lib.hid hD1
    clear hD0 hD1
    go_wp2_with fail
    go_loopw [65] (fun v wr => ∃ k : Nat, k ≤ 2 ∧ v = .int .i64 k ∧ Hid (OwnS W B C N O D L cb cc cn co cd cl wr)) (fun v _ => 2 - (intOf v).toNat)
    case atStart => exact ⟨0, by omega, rfl, HO5⟩
    case round =>
      obtain ⟨k, hk, rfl, HO⟩ := hrel
      clear HO5
      generalize wr = W6 at *
      rcases (by omega : k = 0 ∨ k = 1 ∨ k = 2) with rfl | rfl | rfl
      · have hix := pick_two0 B C m2 cb m3 cc
        go_wp2_with fail
        clear hix
        go_loopw [74] (fun v wr => ∃ k : Nat, k ≤ cb ∧ v = .int .i64 k ∧ Hid (OwnS W B C N O D L cb cc cn co cd cl wr)) (fun v _ => cb - (intOf v).toNat)
        case atStart => exact ⟨0, by omega, rfl, HO⟩
        case round =>
          obtain ⟨p, hp, rfl, HJ⟩ := hrel
          clear HO
          by_cases hlt : p < cb
          · rcases HJ.out.i0 with ⟨_, h0⟩ | ⟨g, xs, hA, hg, hxl, _, hW⟩
            · omega
            · have hDD := HD0.out g 0 hA
              have hc := hW.cell (j := p) (by omega)
              have hf := hW.frozen p
              have HNX := Lib.hid (fun z hz => HJ.out.set hg hW p z hz)
              clear hW HJ
              generalize nth xs p = X at *
              rw [hDD]
              clear hDD
              have hplt : (p : Int) < (cb : Int) := by omega
              go_wp2
              go_roundw
              case rel => exact ⟨p + 1, by omega, by go_num, HNX.out _ (wf_wrap _ _)⟩
              case measure => simp [intOf]; omega
          · obtain rfl : p = cb := by omega
            have HO2 := HJ
            clear HJ
            go_wp2
            go_roundw
            case rel => exact ⟨0 + 1, by omega, by go_num, HO2⟩
            case measure => simp [intOf]
      · have hix := pick_two1 B C m2 cb m3 cc
        go_wp2_with fail
        clear hix
        go_loopw [74] (fun v wr => ∃ k : Nat, k ≤ cc ∧ v = .int .i64 k ∧ Hid (OwnS W B C N O D L cb cc cn co cd cl wr)) (fun v _ => cc - (intOf v).toNat)
        case atStart => exact ⟨0, by omega, rfl, HO⟩
        case round =>
          obtain ⟨p, hp, rfl, HJ⟩ := hrel
          clear HO
          by_cases hlt : p < cc
          · rcases HJ.out.i1 with ⟨_, h0⟩ | ⟨g, xs, hA, hg, hxl, _, hW⟩
            · omega
            · have hDD := HD1.out g 0 hA
              have hc := hW.cell (j := p) (by omega)
              have hf := hW.frozen p
              have HNX := Lib.hid (fun z hz => HJ.out.set hg hW p z hz)
              clear hW HJ
              generalize nth xs p = X at *
              rw [hDD]
              clear hDD
              have hplt : (p : Int) < (cc : Int) := by omega
              go_wp2
              go_roundw
              case rel => exact ⟨p + 1, by omega, by go_num, HNX.out _ (wf_wrap _ _)⟩
              case measure => simp [intOf]; omega
          · obtain rfl : p = cc := by omega
            have HO2 := HJ
            clear HJ
            go_wp2
            go_roundw
            case rel => exact ⟨1 + 1, by omega, by go_num, HO2⟩
            case measure => simp [intOf]
      · have HT : Hid (OwnT W N O D L cn co cd cl W6) := ⟨HO.out.below, HO.out.j0, HO.out.j1, HO.out.j2, HO.out.j3⟩
        have hn0 := HO.out.j0.cap
        have hn1 := HO.out.j1.cap
        have hn2 := HO.out.j2.cap
        have hn3 := HO.out.j3.cap
        unfold maxLen at hn0 hn1 hn2 hn3
        clear HO hs0 hs1 HD0 HD1 hm0 hm1
        obtain ⟨E0, ht0, hE0⟩ := run_upto (P := Try.prog) Try.underlying23 (by kernel_rfl) N q2 cn cn (cn : Int) rfl (Nat.le_refl _)
        obtain ⟨E1, ht1, hE1⟩ := run_upto (P := Try.prog) Try.underlying23 (by kernel_rfl) O p3 co co (co : Int) rfl (Nat.le_refl _)
        obtain ⟨E2, ht2, hE2⟩ := run_upto (P := Try.prog) Try.underlying23 (by kernel_rfl) D q3 cd cd (cd : Int) rfl (Nat.le_refl _)
        obtain ⟨E3, ht3, hE3⟩ := run_upto (P := Try.prog) Try.underlying23 (by kernel_rfl) L k4 cl cl (cl : Int) rfl (Nat.le_refl _)
        have HE0 := Lib.hid hE0
        have HE1 := Lib.hid hE1
        have HE2 := Lib.hid hE2
        have HE3 := Lib.hid hE3
        clear hE0 hE1 hE2 hE3
        go_wp2_with fail
        go_loopw [90] (fun v wr => ∃ k : Nat, k ≤ 4 ∧ v = .int .i64 k ∧ Hid (OwnT W N O D L cn co cd cl wr)) (fun v _ => 4 - (intOf v).toNat)
        case atStart => exact ⟨0, by omega, rfl, HT⟩
        case round =>
          obtain ⟨k, hk, rfl, HO⟩ := hrel
          clear HT
          generalize wr = W7 at *
          rcases (by omega : k = 0 ∨ k = 1 ∨ k = 2 ∨ k = 3 ∨ k = 4) with rfl | rfl | rfl | rfl | rfl
          · have hix := pick_ints0 N O D L q2 cn p3 co q3 cd k4 cl
            go_wp2_with fail
            clear hix
            go_loopw [99] (fun v wr => ∃ k : Nat, k ≤ cn ∧ v = .int .i64 k ∧ Hid (OwnT W N O D L cn co cd cl wr)) (fun v _ => cn - (intOf v).toNat)
            case atStart => exact ⟨0, by omega, rfl, HO⟩
            case round =>
              obtain ⟨p, hp, rfl, HJ⟩ := hrel
              clear HO
              by_cases hlt : p < cn
              · rcases HJ.out.j0 with ⟨_, h0⟩ | ⟨g, xs, hA, hg, hxl, _, hW⟩
                · omega
                · have hDD := HE0.out g 0 hA
                  have hc := hW.cell (j := p) (by omega)
                  have hf := hW.frozen p
                  have HNX := Lib.hid (fun z hz => HJ.out.set hg p z hz)
                  clear hW HJ
                  generalize nth xs p = X at *
                  rw [hDD]
                  clear hDD
                  have hplt : (p : Int) < (cn : Int) := by omega
                  go_wp2
                  go_roundw
                  case rel => exact ⟨p + 1, by omega, by go_num, HNX.out _ (wf_i64.2 (by unfold wrap64; omega))⟩
                  case measure => simp [intOf]; omega
              · obtain rfl : p = cn := by omega
                have HO2 := HJ
                clear HJ
                go_wp2
                go_roundw
                case rel => exact ⟨0 + 1, by omega, by go_num, HO2⟩
                case measure => simp [intOf]
          · have hix := pick_ints1 N O D L q2 cn p3 co q3 cd k4 cl
            go_wp2_with fail
            clear hix
            go_loopw [99] (fun v wr => ∃ k : Nat, k ≤ co ∧ v = .int .i64 k ∧ Hid (OwnT W N O D L cn co cd cl wr)) (fun v _ => co - (intOf v).toNat)
            case atStart => exact ⟨0, by omega, rfl, HO⟩
            case round =>
              obtain ⟨p, hp, rfl, HJ⟩ := hrel
              clear HO
              by_cases hlt : p < co
              · rcases HJ.out.j1 with ⟨_, h0⟩ | ⟨g, xs, hA, hg, hxl, _, hW⟩
                · omega
                · have hDD := HE1.out g 0 hA
                  have hc := hW.cell (j := p) (by omega)
                  have hf := hW.frozen p
                  have HNX := Lib.hid (fun z hz => HJ.out.set hg p z hz)
                  clear hW HJ
                  generalize nth xs p = X at *
                  rw [hDD]
                  clear hDD
                  have hplt : (p : Int) < (co : Int) := by omega
                  go_wp2
                  go_roundw
                  case rel => exact ⟨p + 1, by omega, by go_num, HNX.out _ (wf_i64.2 (by unfold wrap64; omega))⟩
                  case measure => simp [intOf]; omega
              · obtain rfl : p = co := by omega
                have HO2 := HJ
                clear HJ
                go_wp2
                go_roundw
                case rel => exact ⟨1 + 1, by omega, by go_num, HO2⟩
                case measure => simp [intOf]
          · have hix := pick_ints2 N O D L q2 cn p3 co q3 cd k4 cl
            go_wp2_with fail
            clear hix
            go_loopw [99] (fun v wr => ∃ k : Nat, k ≤ cd ∧ v = .int .i64 k ∧ Hid (OwnT W N O D L cn co cd cl wr)) (fun v _ => cd - (intOf v).toNat)
            case atStart => exact ⟨0, by omega, rfl, HO⟩
            case round =>
              obtain ⟨p, hp, rfl, HJ⟩ := hrel
              clear HO
              by_cases hlt : p < cd
              · rcases HJ.out.j2 with ⟨_, h0⟩ | ⟨g, xs, hA, hg, hxl, _, hW⟩
                · omega
                · have hDD := HE2.out g 0 hA
                  have hc := hW.cell (j := p) (by omega)
                  have hf := hW.frozen p
                  have HNX := Lib.hid (fun z hz => HJ.out.set hg p z hz)
                  clear hW HJ
                  generalize nth xs p = X at *
                  rw [hDD]
                  clear hDD
                  have hplt : (p : Int) < (cd : Int) := by omega
                  go_wp2
                  go_roundw
                  case rel => exact ⟨p + 1, by omega, by go_num, HNX.out _ (wf_i64.2 (by unfold wrap64; omega))⟩
                  case measure => simp [intOf]; omega
              · obtain rfl : p = cd := by omega
                have HO2 := HJ
                clear HJ
                go_wp2
                go_roundw
                case rel => exact ⟨2 + 1, by omega, by go_num, HO2⟩
                case measure => simp [intOf]
          · have hix := pick_ints3 N O D L q2 cn p3 co q3 cd k4 cl
            go_wp2_with fail
            clear hix
            go_loopw [99] (fun v wr => ∃ k : Nat, k ≤ cl ∧ v = .int .i64 k ∧ Hid (OwnT W N O D L cn co cd cl wr)) (fun v _ => cl - (intOf v).toNat)
            case atStart => exact ⟨0, by omega, rfl, HO⟩
            case round =>
              obtain ⟨p, hp, rfl, HJ⟩ := hrel
              clear HO
              by_cases hlt : p < cl
              · rcases HJ.out.j3 with ⟨_, h0⟩ | ⟨g, xs, hA, hg, hxl, _, hW⟩
                · omega
                · have hDD := HE3.out g 0 hA
                  have hc := hW.cell (j := p) (by omega)
                  have hf := hW.frozen p
                  have HNX := Lib.hid (fun z hz => HJ.out.set hg p z hz)
                  clear hW HJ
                  generalize nth xs p = X at *
                  rw [hDD]
                  clear hDD
                  have hplt : (p : Int) < (cl : Int) := by omega
                  go_wp2
                  go_roundw
                  case rel => exact ⟨p + 1, by omega, by go_num, HNX.out _ (wf_i64.2 (by unfold wrap64; omega))⟩
                  case measure => simp [intOf]; omega
              · obtain rfl : p = cl := by omega
                have HO2 := HJ
                clear HJ
                go_wp2
                go_roundw
                case rel => exact ⟨3 + 1, by omega, by go_num, HO2⟩
                case measure => simp [intOf]
          · have H5 := Lib.hid (HC.out W7 HO.out.below)
            have HBE := Lib.hid (HBW.out.trans (HO.out.below.mono HBW.out.size))
            clear HO
            go_wp2_with fail
            refine H5.out.mono ?_
            rintro e w9 ⟨rfl, q9, rfl⟩
            go_wp2
            go_ret
            exact ⟨rfl, below_drewN HBE.out q9⟩
end Go.Proofs.Ytdpbdnnghcbaaaa
