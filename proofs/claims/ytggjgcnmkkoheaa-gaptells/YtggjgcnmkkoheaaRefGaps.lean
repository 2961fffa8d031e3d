/-
  Contract of the reference's GapsOf.
-/
import Derived.Test.YtggjgcnmkkoheaaRefGap
import Derived.Test.YtggjgcnmkkoheaaRefRuns
import Derived.Test.YtggjgcnmkkoheaaRefSpots
import Derived.Test.YtggjgcnmkkoheaaWalkB
namespace Go.Proofs.Ytggjgcnmkkoheaa
open Go.RowKit

def boolC (b : Bool) : List Value := [.bool b]
theorem boolC_len (b : Bool) : (boolC b).length = 1 := rfl
theorem bool_info : (Try.prog.info? 4).map (fun i => (i.zero, i.size, i.bytes)) = some (some (.bool false), 1, 1) := by kernel_rfl
/-- The marks of the words before 'a'. -/
def markL (zs : List Int) (a : Nat) : List Bool := (List.range (zs.length + 1)).map fun j => decide (j < a) && freeAt zs j
theorem markL_len (zs : List Int) (a : Nat) : (markL zs a).length = zs.length + 1 := by simp [markL]
theorem markL_zero (zs : List Int) : markL zs 0 = List.replicate (zs.length + 1) false := by
  unfold markL
  apply List.ext_getElem
  · simp
  · intro i h1 h2; simp
theorem nthG_markL (zs : List Int) (a j : Nat) (h : j < zs.length + 1) : nthG (markL zs a) j = (decide (j < a) && freeAt zs j) := by
  rw [nthG_get _ _ (by rw [markL_len]; exact h)]
  simp [markL]
theorem markL_set (zs : List Int) (a : Nat) : (markL zs a).set a (freeAt zs a) = markL zs (a + 1) := by
  apply List.ext_getElem
  · simp [markL]
  · intro i h1 h2
    have hi : i < zs.length + 1 := by simpa [markL] using h2
    rw [List.getElem_set]
    by_cases he : a = i
    · subst he
      rw [if_pos rfl]
      simp [markL]
    · rw [if_neg he]
      have e : decide (i < a) = decide (i < a + 1) := by rw [decide_eq_decide]; omega
      simp [markL, e]
theorem made_flat (n : Nat) : madeCells #[Value.bool false] n = ((List.replicate n false).flatMap boolC).toArray := by
  apply Array.toList_inj.1
  rw [toList_madeCells_one]
  show _ = (List.replicate n false).flatMap boolC
  induction n with
  | zero => rfl
  | succ n ih => rw [List.replicate_succ, List.replicate_succ, List.flatMap_cons, ← ih]; rfl
theorem own_made {w : World} {n : Nat} {base : Nat} (hb : base ≤ w.heap.size) (hn : n ≤ maxLen) : OwnG boolC 1 4 (w.alloc (.cells (madeCells #[Value.bool false] n) 4)) base (.slice (some ⟨w.heap.size, 0, none⟩) n n) (List.replicate n false) := by
  have e := made_flat n
  have hl : ((List.replicate n false).flatMap boolC).length = n := by rw [flat_length boolC_len]; simp
  refine ⟨by rw [hl]; simp, .inr ⟨w.heap.size, n, madeCells #[Value.bool false] n, by simp, hb, heap_alloc_new w _, by simp, hn, by rw [e]; simp [hl], ?_⟩⟩
  rw [e]
  simp only [List.length_replicate, Nat.mul_one]
  exact List.take_of_length_le (by rw [hl]; omega)

/-- What holds while GapsOf goes over the spots. -/
structure GapsI (zs : List Int) (w : World) (g gb : Nat) (A2 : Option Addr) (m a : Nat) (wr : World) : Prop where
  box : Box wr gb 88 #[.slice (some ⟨g, 0, none⟩) (zs.length + 1) (zs.length + 1)]
  own : OwnG boolC 1 4 wr g (.slice (some ⟨g, 0, none⟩) (zs.length + 1) (zs.length + 1)) (markL zs a)
  spots : ArrG spotC 5 wr g A2 m (spList zs)
  below : Below w.heap.size w wr
  o1 : w.heap.size ≤ g
  o2 : g < gb
section
variable {zs : List Int} {w wr wr' : World} {g gb m a : Nat} {A2 : Option Addr}
theorem GapsI.next (h : GapsI zs w g gb A2 m a wr) (hb : Below wr.heap.size wr wr') : GapsI zs w g gb A2 m a wr' :=
  ⟨h.box.below hb h.box.lt, h.own.below hb, h.spots.below hb (Nat.le_of_lt (Nat.lt_trans h.o2 h.box.lt)), h.below.trans (hb.mono h.below.size), h.o1, h.o2⟩
theorem box_set {w : World} {g g' : Nat} {t : TypeId} {cs : Array Value} (h : Box w g t cs) (hne : g' ≠ g) (j : Nat) (d : Value) : Box (w.setCell ⟨g', j, none⟩ d) g t cs := by
  unfold Box at *
  rw [← h]
  show (w.heap.modify g' _)[g]? = _
  rw [Array.getElem?_modify, if_neg hne]
theorem GapsI.mark (h : GapsI zs w g gb A2 m a wr) (ha : a < zs.length + 1) : wr.cell? ⟨g, a, none⟩ = some (.bool (nthG (markL zs a) a)) ∧ wr.frozen? ⟨g, a, none⟩ = false ∧ GapsI zs w g gb A2 m (a + 1) (wr.setCell ⟨g, a, none⟩ (.bool (freeAt zs a))) := by
  obtain ⟨g', cap, hv, _, _, _, hc, hset⟩ := h.own.form boolC_len (by rw [markL_len]; omega)
  injection hv with hv1 _ _
  injection hv1 with hv1
  injection hv1 with hv1 _ _
  subst hv1
  have h1 := hc a (by rw [markL_len]; exact ha) 0 (by omega)
  rw [Nat.mul_one, Nat.add_zero] at h1
  have h2 := hset a 0 (freeAt zs a) (.bool (freeAt zs a)) (by rw [markL_len]; exact ha) (by omega) rfl
  rw [Nat.mul_one, Nat.add_zero, markL_set] at h2
  refine ⟨h1.1, h1.2, box_set h.box (Nat.ne_of_lt h.o2) a _, h2, ?_, below_set h.below h.o1 a _, h.o1, h.o2⟩
  refine ⟨h.spots.1, fun hn => ?_⟩
  obtain ⟨b, off, e, hb, hcs⟩ := h.spots.2 hn
  exact ⟨b, off, e, hb, fun j hj i hi => (cell_setOther wr (by omega) a _ _).trans (hcs j hj i hi)⟩
end

set_option maxHeartbeats 400000 in
theorem marked_at (zs : List Int) (w : World) (g gb k : Nat) (hb : Box w gb 88 #[.slice (some ⟨g, 0, none⟩) (zs.length + 1) (zs.length + 1)]) (hO : OwnG boolC 1 4 w g (.slice (some ⟨g, 0, none⟩) (zs.length + 1) (zs.length + 1)) (markL zs zs.length)) (hk : k < zs.length) (hl : zs.length ≤ 256) :
    Calls Try.prog 57 #[.int .i64 k, .pointer (some ⟨gb, 0, none⟩)] w fun e w' => e = .returned (.bool (freeAt zs k)) ∧ Below w.heap.size w w' := by
  obtain ⟨g', cap, hv, _, _, _, hc, _⟩ := hO.form boolC_len (by rw [markL_len]; omega)
  injection hv with hv1 _ _
  injection hv1 with hv1
  injection hv1 with hv1 _ _
  subst hv1
  have h1 := (hc k (by rw [markL_len]; omega) 0 (by omega)).1
  rw [Nat.mul_one, Nat.add_zero, nthG_markL _ _ _ (by omega), decide_eq_true (by omega : k < zs.length), Bool.true_and] at h1
  have h1' : w.cell? ⟨g, k, none⟩ = some (.bool (freeAt zs k)) := h1
  have h2 : w.cell? ⟨gb, 0, none⟩ = some (.slice (some ⟨g, 0, none⟩) (zs.length + 1) (zs.length + 1)) := hb.cell 0
  generalize zs.length = n at *
  generalize freeAt zs k = F at *
  have hkn : (k : Int) < (n : Int) + 1 := by omega
  have hkn2 : k < n + 1 := by omega
  clear hc hb hO h1
  go_enter Try.func57, Try.ntmps57
  go_wp2
  go_ret
  exact ⟨rfl, Below.refl _ _⟩

/-- What GapsOf answers. -/
def GapsOfP (zs : List Int) (w : World) (e : Ending) (w' : World) : Prop := ∃ A c, e = .returned (.slice A (gapsL zs).length c) ∧ Below w.heap.size w w' ∧ ArrG runC 2 w' w'.heap.size A (gapsL zs).length (gapsL zs)

set_option maxHeartbeats 2000000 in
set_option maxRecDepth 8000 in
theorem gapsOf_any (A : Option Addr) (n c : Nat) (zs : List Int) (w : World) (ha : Arr .u64 w w.heap.size A n zs) (h : spErr zs = 0) :
    Calls Try.prog 15 #[.slice A n c] w (GapsOfP zs w) := by
  have hlen := ha.1
  subst hlen
  obtain ⟨h256, hfin⟩ := spErr_zero h
  have HS := Lib.hid (SpotsOf_any A zs.length c zs w (by unfold maxLen; omega) ha)
  unfold SpotsP at HS
  have hsp := spList_ok h
  have hspl : (spList zs).length = (begins zs 0).length := by rw [hsp]; simp
  rw [h, hspl] at HS
  have hbl := begins_len (zs := zs) (a := 0)
  have HZ := Lib.hid ha.2.1
  have HSP := Lib.hid hsp
  obtain ⟨m, hm⟩ : ∃ m, (begins zs 0).length = m := ⟨_, rfl⟩
  rw [hm] at HS hbl
  clear ha h hsp hspl
  have hmk := fun wx => run_make_row' (P := Try.prog) 88 4 (.bool false) 1 Try.underlying88 bool_info rfl .i64 .i64 (zs.length + 1) (by omega) (by omega) wx
  rw [show (((zs.length + 1 : Nat) : Int)) = (zs.length : Int) + 1 by omega] at hmk
  go_enter Try.func15, Try.ntmps15
  go_wp2_with fail
  refine HS.out.mono ?_
  rintro e w1 ⟨A2, c2, rfl, hb1, _, hS, _⟩
  have e1 : (w1.alloc (.cells (madeCells #[Value.bool false] (zs.length + 1)) 4)).heap.size = w1.heap.size + 1 := by simp
  have HI : Hid (GapsI zs w w1.heap.size (w1.heap.size + 1) A2 m 0 ((w1.alloc (.cells (madeCells #[Value.bool false] (zs.length + 1)) 4)).alloc (.cells #[.slice (some ⟨w1.heap.size, 0, none⟩) (zs.length + 1) (zs.length + 1)] 88))) := by
    have b1 := (Below.refl w1.heap.size w1).alloc (Nat.le_refl _) (.cells (madeCells #[Value.bool false] (zs.length + 1)) 4)
    have b2 := (Below.refl (w1.heap.size + 1) (w1.alloc (.cells (madeCells #[Value.bool false] (zs.length + 1)) 4))).alloc (by rw [e1]; omega) (.cells #[.slice (some ⟨w1.heap.size, 0, none⟩) (zs.length + 1) (zs.length + 1)] 88)
    have bx := Box.new (w1.alloc (.cells (madeCells #[Value.bool false] (zs.length + 1)) 4)) 88 #[.slice (some ⟨w1.heap.size, 0, none⟩) (zs.length + 1) (zs.length + 1)]
    rw [e1] at bx
    have b12 := b1.trans (b2.mono (by omega))
    refine ⟨bx, ?_, hS.below b12 (Nat.le_refl _), hb1.trans (b12.mono hb1.size), hb1.size, by omega⟩
    rw [markL_zero]
    exact (own_made (Nat.le_refl _) (by unfold maxLen; omega)).below (by rw [e1]; exact b2)
  clear hb1 hS HS e1
  go_wp2_with fail
  generalize ((w1.alloc (.cells (madeCells #[Value.bool false] (zs.length + 1)) 4)).alloc (.cells #[.slice (some ⟨w1.heap.size, 0, none⟩) (zs.length + 1) (zs.length + 1)] 88)) = W at *
  obtain ⟨g, hg⟩ : ∃ g, w1.heap.size = g := ⟨_, rfl⟩
  obtain ⟨gb, hgb⟩ : ∃ gb, w1.heap.size + 1 = gb := ⟨_, rfl⟩
  rw [hgb, hg] at HI
  simp only [hgb]
  clear hmk hg hgb
  go_loopw [20] (fun i wr => ∃ k a : Nat, k ≤ m ∧ i = .int .i64 k ∧ (begins zs 0).drop k = begins zs a ∧ fine zs a = true ∧ a ≤ zs.length ∧ GapsI zs w g gb A2 m a wr) (fun i _ => m - (intOf i).toNat)
  case atStart => exact ⟨0, 0, Nat.zero_le _, rfl, rfl, hfin, Nat.zero_le _, HI.out⟩
  case round =>
    obtain ⟨k, a, hk, rfl, hd, hf, hale, hI⟩ := hrel
    by_cases hlt : k < m
    · obtain ⟨e1, e2, e3, e4, e5⟩ := begins_drop hd hf (by omega)
      have hmem : a ∈ begins zs 0 := by rw [← e1, nthG_get _ _ (by omega)]; exact List.getElem_mem _
      obtain ⟨R, Bd, hR, hBd, q1, q2, q3, q4, q5, q6, q7, q8⟩ := spot_facts e3 HZ.out e2
      obtain ⟨b, off, rfl, hbB, c0, c1, c2, c3, c4⟩ := hI.spots.spot hlt
      have hnk : nthG (spList zs) k = spOf zs a := by rw [HSP.out, nthG_map _ _ _ (by omega), e1]
      rw [hnk] at c0 c1 c2 c3 c4
      unfold spOf at c0 c1 c2 c3 c4
      simp only [hR, hBd] at c0 c1 c2 c3 c4
      have hL : (a + sLong (nth zs a)) ≤ zs.length := (stepOk_iff.1 e3).2
      have hLL : (1 + (R : Int) + Bd) = (sLong (nth zs a) : Int) := by omega
      have HN1 := Lib.hid e4
      have HN2 := Lib.hid e5
      have HF : Hid (∀ j, j < sLong (nth zs a) → freeAt zs (a + j) = vF (nth zs a)) := fun j hj => freeAt_in hmem (by omega) (by omega)
      have HLn := Lib.hid (fun w => headLong_any R Bd (vT (nth zs a)) (vF (nth zs a)) w (by omega) (by omega) (by omega) (by omega))
      rw [hLL] at HLn
      generalize sLong (nth zs a) = L at *
      generalize vT (nth zs a) = T at *
      generalize vF (nth zs a) = F at *
      have bx := Box.new wr 47 #[.int .i64 a, .int .i64 R, .int .i64 Bd, .int .i64 T, .bool F]
      have bw := (Below.refl wr.heap.size wr).alloc (Nat.le_refl _) (.cells #[.int .i64 a, .int .i64 R, .int .i64 Bd, .int .i64 T, .bool F] 47)
      have HX := Lib.hid bx
      have HW := Lib.hid bw
      have HI2 := Lib.hid hI
      have hggb := hI.box.lt
      clear bx bw hI hd hf e1 e2 e3 e4 e5 hmem q1 q2 q3 q4 q5 q6 q7 q8 hR hBd hnk HI hfin hm
      go_wp2_with fail
      refine (HLn.out _).mono ?_
      rintro e w2 ⟨rfl, hb2⟩
      have HB2 := Lib.hid (HW.out.trans (hb2.mono HW.out.size))
      have HX2 := Lib.hid (HX.out.below hb2 HX.out.lt)
      have HI3 := Lib.hid (HI2.out.next HB2.out)
      clear hb2 HX HW HI2 c0 c1 c2 c3 c4 HB2 HLn
      obtain ⟨sb, hsb⟩ : ∃ sb, wr.heap.size = sb := ⟨_, rfl⟩
      rw [hsb] at HX2 hggb ⊢
      clear hsb
      generalize wr = W0 at *
      go_wp2_with fail
      go_loopw [27] (fun i wr => ∃ j : Nat, j ≤ L ∧ i = .int .i64 j ∧ GapsI zs w g gb (some ⟨b, off, none⟩) m (a + j) wr ∧ Box wr sb 47 #[.int .i64 a, .int .i64 R, .int .i64 Bd, .int .i64 T, .bool F]) (fun i _ => L - (intOf i).toNat)
      case atStart => exact ⟨0, Nat.zero_le _, rfl, HI3.out, HX2.out⟩
      case round =>
        obtain ⟨j, hj, rfl, hI, hX⟩ := hrel
        by_cases hjl : j < L
        · obtain ⟨cm, cf, hN⟩ := hI.mark (by omega)
          rw [HF.out j hjl] at hN
          have o2 := hI.o2
          have HN := Lib.hid hN
          have HXn := Lib.hid (box_set (g' := g) hX (by omega) (a + j) (.bool F))
          have d0 : wr.cell? ⟨gb, 0, none⟩ = some (.slice (some ⟨g, 0, none⟩) (zs.length + 1) (zs.length + 1)) := hI.box.cell 0
          have d1 : wr.cell? ⟨sb, 0, none⟩ = some (.int .i64 a) := hX.cell 0
          have d2 : wr.cell? ⟨sb, 4, none⟩ = some (.bool F) := hX.cell 4
          have hlt1 : (a : Int) + (j : Int) < (zs.length : Int) + 1 := by omega
          have hlt2 : a + j < zs.length + 1 := by omega
          clear hI hX hN HI3 HX2 HF HZ HSP HN1 HN2
          generalize nthG (markL zs (a + j)) (a + j) = X at *
          generalize zs.length = n at *
          go_wp2
          go_roundw
          case rel => exact ⟨j + 1, by omega, by go_num, HN.out, HXn.out⟩
          case measure => simp [intOf]; omega
        · obtain rfl : j = L := by omega
          have HN := Lib.hid hI
          clear hI hX HI3 HX2
          go_wp2
          go_roundw
          case rel => exact ⟨k + 1, _, by omega, by go_num, HN1.out, HN2.out, hL, HN.out⟩
          case measure => simp [intOf]; omega
    · obtain rfl : k = m := by omega
      have hae : zs.length ≤ a := begins_nil (by rw [← hd]; exact List.drop_eq_nil_of_le (by omega)) hf
      obtain rfl : a = zs.length := by omega
      have HR : Hid (Calls Try.prog 56 #[.int .i64 zs.length, .func (.func 57) #[] #[.pointer (some ⟨gb, 0, none⟩)]] wr (RunsOfR (freeAt zs) zs.length wr)) := by
        refine runsOfR_any zs.length 57 #[.pointer (some ⟨gb, 0, none⟩)] (freeAt zs) wr (by omega) (fun args wx => Try.call57 args wx) (fun wx hb j hj => ?_)
        have hI2 := hI.next hb
        exact marked_at zs wx g gb j hI2.box hI2.own hj h256
      have HB := Lib.hid hI.below
      unfold RunsOfR at HR
      clear hd hf hI HI
      go_wp2_with fail
      refine HR.out.mono ?_
      rintro e w3 ⟨v, rfl, hO, hb3⟩
      change OwnG runC 2 38 w3 wr.heap.size v (gapsL zs) at hO
      obtain ⟨A3, c3, rfl, _, hA3⟩ := hO.arr runC_len
      have HX := Lib.hid hA3
      have HB3 := Lib.hid (HB.out.trans (hb3.mono HB.out.size))
      clear hO hA3 hb3 HR
      go_wp2
      go_ret
      exact ⟨A3, c3, rfl, HB3.out, HX.out⟩
end Go.Proofs.Ytggjgcnmkkoheaa
