/-
  Contracts of package walk's read.
-/
import Derived.Test.YtknbbondofijeaaWalkR
import Derived.Test.YtknbbondofijeaaSpots
import Derived.IntWalk
import Derived.Carry
import Derived.StillTailTactics
namespace Go.Proofs.Ytknbbondofijeaa
open Go.RowKit

theorem mapT : MapT Try.prog .u64 .i64 120 52 3 := ⟨Try.underlying120, Try.underlying52, Try.underlying3, fun _ => by kernel_rfl⟩
theorem u64_size : (Try.prog.info? 52).map (·.size) = some 1 := by kernel_rfl

set_option maxHeartbeats 400000 in
theorem reference_any (s : Nat) (w : World) (h : s ≤ 256) : Calls Try.prog 98 #[.int .i64 s] w fun e w' => e = .returned (.int .u64 ((s : Int) + 1)) ∧ w = w' := by
  go_enter Try.func98, Try.ntmps98
  go_wp2
  go_ret
  exact ⟨rfl, rfl⟩

/-- The heap as a value. -/
def heapV (A : Option Addr) (n c : Nat) (A2 : Option Addr) (m c2 b : Nat) : Value := .agg #[.slice A n c, .slice A2 m c2, .map (some b)]

set_option maxHeartbeats 400000 in
theorem refs_any (A : Option Addr) (n c : Nat) (A2 : Option Addr) (m c2 b : Nat) (zs : List Int) (s : Nat) (w : World) (B : Nat) (ha : Arr .u64 w B A n zs) (hB : B ≤ w.heap.size) (hn : n ≤ 256) (hnc : n ≤ c) (hs : s < n) (hst : stepOk zs s = true) :
    Calls Try.prog 99 #[.agg #[.slice A n c, .slice A2 m c2, .map (some b)], .agg #[.int .i64 s, .int .i64 (vR (nth zs s)), .int .i64 (vB (nth zs s)), .int .i64 (vT (nth zs s)), .bool (vF (nth zs s))]] w fun e w' =>
      ∃ D d, e = .returned (.slice D (refWords zs s).length d) ∧ Below w.heap.size w w' ∧ Arr .u64 w' B D (refWords zs s).length (refWords zs s) := by
  have hl := ha.1
  obtain ⟨R, Bd, hR, hBd, f1, f2, f3, f4, f5, f6, f7, f8⟩ := spot_facts hst ha.2.1 (by omega)
  have hrl := refWords_len hst
  have hrw : refWords zs s = (zs.drop (s + 1)).take R := by unfold refWords; rw [hR]; rfl
  rw [hR] at hrl
  rw [hR, hBd]
  obtain ⟨D, hD, hD2⟩ := run_from (P := Try.prog) Try.underlying22 u64_size A n c (s + 1) ((s : Int) + 1) (by omega) (by omega) hnc
  obtain ⟨E, hE, hE2⟩ := run_upto (P := Try.prog) Try.underlying22 u64_size D (n - (s + 1)) (c - (s + 1)) R R rfl (by omega)
  have hA := ha.cut2 (p := s + 1) (q := R) (by omega) hD2 hE2
  rw [← hrw] at hA
  rw [show (refWords zs s).length = R by rw [hrl]; simp]
  have HA := Lib.hid hA
  have g1 : IntKind.i64.wrap ((s : Int) + 1) = s + 1 := IntWalk.i64_in _ (by omega)
  clear hA hrw hrl hD2 hE2 ha hst
  generalize vT (nth zs s) = T at *
  generalize vF (nth zs s) = F at *
  have b1 := (Box.new w 122 #[.slice A n c, .slice A2 m c2, .map (some b)]).alloc (.cells #[.int .i64 s, .int .i64 R, .int .i64 Bd, .int .i64 T, .bool F] 98)
  have b2 := Box.new (w.alloc (.cells #[.slice A n c, .slice A2 m c2, .map (some b)] 122)) 98 #[.int .i64 s, .int .i64 R, .int .i64 Bd, .int .i64 T, .bool F]
  have HB := Lib.hid (((Below.refl _ w).alloc (Nat.le_refl _) (.cells #[.slice A n c, .slice A2 m c2, .map (some b)] 122)).alloc (by simp) (.cells #[.int .i64 s, .int .i64 R, .int .i64 Bd, .int .i64 T, .bool F] 98))
  have e1 : (w.alloc (.cells #[.slice A n c, .slice A2 m c2, .map (some b)] 122)).heap.size = w.heap.size + 1 := by simp
  rw [e1] at b2
  have B1 := Lib.hid b1
  have B2 := Lib.hid b2
  clear b1 b2
  go_enter Try.func99, Try.ntmps99
  go_wp2_with fail
  generalize ((w.alloc (.cells #[.slice A n c, .slice A2 m c2, .map (some b)] 122)).alloc (.cells #[.int .i64 s, .int .i64 R, .int .i64 Bd, .int .i64 T, .bool F] 98)) = W at *
  have c0 : W.cell? ⟨w.heap.size, 0, none⟩ = some (.slice A n c) := B1.out.cell 0
  have d0 : W.cell? ⟨w.heap.size + 1, 0, none⟩ = some (.int .i64 s) := B2.out.cell 0
  have d1 : W.cell? ⟨w.heap.size + 1, 1, none⟩ = some (.int .i64 R) := B2.out.cell 1
  go_quiet (fail)
  go_wp2
  go_ret
  exact ⟨_, _, rfl, below_drewN HB.out _, ((HA.out.below HB.out hB)).drewN _⟩

/-- What read answers. -/
def ReadP (A : Option Addr) (n c : Nat) (zs : List Int) (w : World) (e : Ending) (w' : World) : Prop := Below w.heap.size w w' ∧
  ((arErr zs ≠ 0 ∧ e = .returned (.tuple #[.agg #[.slice none 0 0, .slice none 0 0, .map none], .int .i64 (arErr zs)])) ∨
   (arErr zs = 0 ∧ ∃ A2 c2 b, e = .returned (.tuple #[.agg #[.slice A n c, .slice A2 (begins zs 0).length c2, .map (some b)], .int .i64 0]) ∧ (begins zs 0).length ≤ c2 ∧
      ArrG spotC 5 w' w'.heap.size A2 (begins zs 0).length (spList zs) ∧ High w.heap.size A2 (begins zs 0).length ∧ w.heap.size ≤ b ∧ MapF Try.prog .u64 .i64 52 3 w' b 300 (ixOf zs)))

set_option maxHeartbeats 400000 in
theorem read_bad1 (A : Option Addr) (n c : Nat) (zs : List Int) (w : World) (hn : n ≤ maxLen) (ha : Arr .u64 w w.heap.size A n zs) (h : spErr zs ≠ 0) :
    Calls Try.prog 76 #[.slice A n c] w (ReadP A n c zs w) := by
  have he := arErr_sp h
  have hb : (spErr zs != 0) = true := by simpa using h
  have H := Lib.hid h
  have HN := Lib.hid hn
  have HE := Lib.hid he
  clear h he hn
  have b1 := (Below.refl _ w).alloc (Nat.le_refl _) (.cells #[.slice none 0 0, .slice none 0 0, .map none] 122)
  have HA := Lib.hid ((ha.below b1 (Nat.le_refl _)).more b1.size)
  clear b1 ha
  go_enter Try.func76, Try.ntmps76
  go_wp2_with fail
  refine (Spots_any A n c zs _ HN.out HA.out).mono ?_
  rintro e w1 ⟨A2, c2, rfl, b1, _, _, _⟩
  obtain ⟨bx, b1⟩ := boxed_call b1
  have s0 := bx.soft 0
  have s1 := bx.soft 1
  have s2 := bx.soft 2
  have d0 : w1.cell? ⟨w.heap.size, 0, none⟩ = some (.slice none 0 0) := bx.cell 0
  have d1 : w1.cell? ⟨w.heap.size, 1, none⟩ = some (.slice none 0 0) := bx.cell 1
  have d2 : w1.cell? ⟨w.heap.size, 2, none⟩ = some (.map none) := bx.cell 2
  have HB := Lib.hid b1
  have BX := Lib.hid bx
  clear b1 bx HA
  generalize (spList zs).length = m at *
  go_wp2
  have BY := ((BX.out.set 0 (.slice none 0 0)).set 1 (.slice none 0 0)).set 2 (.map none)
  have HB' := below_set (below_set (below_set HB.out (Nat.le_refl _) 0 (.slice none 0 0)) (Nat.le_refl _) 1 (.slice none 0 0)) (Nat.le_refl _) 2 (.map none)
  generalize (((w1.setCell ⟨w.heap.size, 0, none⟩ (.slice none 0 0)).setCell ⟨w.heap.size, 1, none⟩ (.slice none 0 0)).setCell ⟨w.heap.size, 2, none⟩ (.map none)) = W at *
  have x0 : W.cell? ⟨w.heap.size, 0, none⟩ = some (.slice none 0 0) := BY.cell 0
  have x1 : W.cell? ⟨w.heap.size, 1, none⟩ = some (.slice none 0 0) := BY.cell 1
  have x2 : W.cell? ⟨w.heap.size, 2, none⟩ = some (.map none) := BY.cell 2
  refine bodyPost_ret (v := .tuple #[.agg #[.slice none 0 0, .slice none 0 0, .map none], .int .i64 (spErr zs)]) (by simp [results, Try.results76, go_sem, x0, x1, x2]) rfl ⟨HB', .inl ⟨by rw [HE.out]; exact H.out, by rw [HE.out]⟩⟩


/-- What holds while read goes over the spots. -/
structure ReadI (zs : List Int) (w : World) (B1 gm gh : Nat) (A : Option Addr) (n c : Nat) (A2 : Option Addr) (m c2 k : Nat) (wr : World) : Prop where
  res : Box wr w.heap.size 122 #[.slice none 0 0, .slice none 0 0, .map none]
  heap : Box wr gh 122 #[.slice A n c, .slice A2 m c2, .map (some gm)]
  map : MapF Try.prog .u64 .i64 52 3 wr gm (k + 1) (mapTo zs k)
  spots : ArrG spotC 5 wr B1 A2 m (spList zs)
  high : High (w.heap.size + 1) A2 m
  below : Below w.heap.size w wr
  o1 : w.heap.size < B1
  o2 : B1 ≤ gm
  o3 : gm < gh
section
variable {zs : List Int} {w wr wr' : World} {B1 gm gh n c m c2 k : Nat} {A A2 : Option Addr}
theorem ReadI.next (h : ReadI zs w B1 gm gh A n c A2 m c2 k wr) (hb : Below wr.heap.size wr wr') : ReadI zs w B1 gm gh A n c A2 m c2 k wr' :=
  ⟨h.res.below hb h.res.lt, h.heap.below hb h.heap.lt, h.map.below hb h.map.lt, h.spots.below hb (by have := h.map.lt; have := h.o2; omega), h.high, h.below.trans (hb.mono h.below.size), h.o1, h.o2, h.o3⟩
theorem ReadI.free (h : ReadI zs w B1 gm gh A n c A2 m c2 k wr) (hf : vF (nth zs (st zs k)) = true) : ReadI zs w B1 gm gh A n c A2 m c2 (k + 1) wr :=
  ⟨h.res, h.heap, by rw [mapTo_free hf]; exact h.map.mono (by omega), h.spots, h.high, h.below, h.o1, h.o2, h.o3⟩
theorem ReadI.live (h : ReadI zs w B1 gm gh A n c A2 m c2 k wr) (hf : vF (nth zs (st zs k)) = false) (hg : wr.grownBy wr' (some gm)) (hm : MapF Try.prog .u64 .i64 52 3 wr' gm (k + 1 + 1) (put (mapTo zs k) ((st zs k : Int) + 1) k)) : ReadI zs w B1 gm gh A n c A2 m c2 (k + 1) wr' :=
  ⟨h.res.grown hg (by have := h.o1; have := h.o2; omega), h.heap.grown hg (by have := h.o3; omega), by rw [mapTo_live hf]; exact hm,
    h.spots.below (grown_below hg h.o2 (by have := h.map.lt; have := h.o2; omega)) (Nat.le_refl _), h.high, h.below.trans (grown_below hg (by have := h.o1; have := h.o2; omega) (by have := h.below.size; omega)), h.o1, h.o2, h.o3⟩
end
theorem all_of {α : Type} [Inhabited α] {l : List α} {p : α → Bool} (h : ∀ j, j < l.length → p (nthG l j) = true) : l.all p = true := by
  rw [List.all_eq_true]
  intro x hx
  obtain ⟨i, hi, rfl⟩ := List.getElem_of_mem hx
  have := h i hi
  rwa [nthG_get _ _ hi] at this
theorem all_not {α : Type} [Inhabited α] {l : List α} {p : α → Bool} {j : Nat} (hj : j < l.length) (h : p (nthG l j) = false) : l.all p = false := by
  rw [List.all_eq_false]
  exact ⟨_, List.getElem_mem hj, by rw [← nthG_get _ _ hj, h]; decide⟩
theorem nth_nthG (l : List Int) (j : Nat) : nth l j = nthG l j := rfl

set_option maxRecDepth 8000 in
set_option maxHeartbeats 4000000 in
theorem read_good (A : Option Addr) (n c : Nat) (zs : List Int) (w : World) (hnc : n ≤ c) (ha : Arr .u64 w w.heap.size A n zs) (h : spErr zs = 0) :
    Calls Try.prog 76 #[.slice A n c] w (ReadP A n c zs w) := by
  obtain ⟨h256, hfine⟩ := spErr_zero h
  have hl := ha.1
  have hL := spList_ok h
  have hbl := begins_len (zs := zs) (a := 0)
  have hlen : (spList zs).length = (begins zs 0).length := by rw [hL]; simp
  obtain ⟨m, hm⟩ : ∃ m, (begins zs 0).length = m := ⟨_, rfl⟩
  rw [hm] at hlen hbl
  have hspot : ∀ k, k < m → nthG (spList zs) k = spOf zs (st zs k) ∧ st zs k < n ∧ stepOk zs (st zs k) = true := fun k hk => by
    have h1 := begins_mem (st_mem (zs := zs) (k := k) (by omega))
    exact ⟨by rw [hL, nthG_map _ _ _ (by omega)]; rfl, by omega, h1.2.2⟩
  have b1 := (Below.refl _ w).alloc (Nat.le_refl _) (.cells #[.slice none 0 0, .slice none 0 0, .map none] 122)
  have HA := Lib.hid ((ha.below b1 (Nat.le_refl _)).more b1.size)
  have HA0 := Lib.hid ha
  have HE := Lib.hid h
  have HS := Lib.hid hspot
  have HM := Lib.hid hm
  clear b1 ha h hfine hL hspot hm
  have hmm := @run_makeMap Try.prog
  go_enter Try.func76, Try.ntmps76
  go_wp2_with fail
  refine (Spots_any A n c zs _ (by unfold maxLen; omega) HA.out).mono ?_
  rintro e w1 ⟨A2, c2, rfl, b1, hc2, hA2, hi2⟩
  rw [HE.out]
  rw [hlen] at hA2 hc2 hi2 ⊢
  have hi2 := hi2.less (lo' := w.heap.size + 1) (by simp)
  have HI2 := Lib.hid hi2
  obtain ⟨bx, b1⟩ := boxed_call b1
  have HB1 := Lib.hid b1
  have BX := Lib.hid bx
  have HA2 := Lib.hid hA2
  have HC2 := Lib.hid hc2
  clear b1 bx HA hA2 hc2 hi2
  go_wp2_with (refine wpList_insert_map mapT _ rfl _ _ _ rfl rfl rfl rfl (MapF.made Try.prog .u64 .i64 52 3 w1) (by unfold maxLen; omega) (by decide) (by decide) ?_; intro w2 hm2 hg2)
  have hsz : w1.heap.size + 1 ≤ w2.heap.size := by have := hg2.size; simpa using this
  have bm : Below w1.heap.size w1 w2 := ((Below.refl _ w1).alloc (Nat.le_refl _) _).trans (grown_below hg2 (Nat.le_refl _) (by simp))
  have hI : ReadI zs w w1.heap.size w1.heap.size w2.heap.size A n c A2 m c2 0 (w2.alloc (.cells #[.slice A n c, .slice A2 m c2, .map (some w1.heap.size)] 122)) :=
    ⟨(BX.out.below bm BX.out.lt).alloc _, Box.new _ _ _, hm2.alloc _, HA2.out.below (bm.alloc (by omega) _) (Nat.le_refl _), HI2.out, (HB1.out.trans (bm.mono HB1.out.size)).alloc (by have := HB1.out.size; omega) _, BX.out.lt, Nat.le_refl _, by omega⟩
  have HI := Lib.hid hI
  clear hI hsz bm hm2 hg2 hmm
  obtain ⟨gm, hgm⟩ : ∃ g, w1.heap.size = g := ⟨_, rfl⟩
  obtain ⟨gh, hgh⟩ : ∃ g, w2.heap.size = g := ⟨_, rfl⟩
  rw [hgm, hgh] at HI
  rw [hgm, hgh]
  go_loopw [31] (fun i wr => ∃ k : Nat, k ≤ m ∧ i = .int .i64 k ∧ Hid (ReadI zs w gm gm gh A n c A2 m c2 k wr)) (fun i _ => m - (intOf i).toNat)
  case atStart => exact ⟨0, by omega, rfl, HI⟩
  case round =>
    obtain ⟨k, hk, rfl, hI⟩ := hrel
    clear HI BX HB1 HA2
    by_cases hlt : k < m
    · obtain ⟨hs, hsn, hst⟩ := HS.out k hlt
      obtain ⟨b, off, rfl, _, q0, q1, q2, q3, q4⟩ := hI.out.spots.spot hlt
      rw [hs] at q0 q1 q2 q3 q4
      unfold spOf at q0 q1 q2 q3 q4
      simp only at q0 q1 q2 q3 q4
      cases hf : vF (nth zs (st zs k))
      · have HF := Lib.hid hf
        rw [hf] at q4
        have hnx := Lib.hid (hI.out.next ((Below.refl _ wr).alloc (Nat.le_refl _) (.cells #[.int .i64 (st zs k), .int .i64 (vR (nth zs (st zs k))), .int .i64 (vB (nth zs (st zs k))), .int .i64 (vT (nth zs (st zs k))), .bool false] 98)))
        have HBX := Lib.hid (Box.new wr 98 #[.int .i64 (st zs k), .int .i64 (vR (nth zs (st zs k))), .int .i64 (vB (nth zs (st zs k))), .int .i64 (vT (nth zs (st zs k))), .bool false])
        clear hf hst hs hI
        obtain ⟨s, hse⟩ : ∃ s, st zs k = s := ⟨_, rfl⟩
        have HSE := Lib.hid hse
        rw [hse] at q0 q1 q2 q3 hnx hsn HBX
        clear hse
        generalize vR (nth zs s) = R at *
        generalize vB (nth zs s) = Bd at *
        generalize vT (nth zs s) = T at *
        go_wp2_with fail
        generalize (wr.alloc (.cells #[.int .i64 s, .int .i64 R, .int .i64 Bd, .int .i64 T, .bool false] 98)) = W at *
        have e0 : W.cell? ⟨wr.heap.size, 0, none⟩ = some (.int .i64 s) := HBX.out.cell 0
        have e1 : W.cell? ⟨gh, 2, none⟩ = some (.map (some gm)) := hnx.out.heap.cell 2
        refine wp_region_still_tail 6 (by kernel_rfl) (by kernel_rfl) ?_
        simp only [List.take_succ_cons, List.take_zero, List.drop_succ_cons, List.drop_zero]
        repeat still_step
        still_call ((reference_any s _ (by omega)).mono fun _ _ h => ⟨h.1, h.2.symm⟩)
        repeat still_step
        refine wpStill_nil ?_
        change wpList _ _ _ _ _ (W.drewN 1)
        refine wpList_store_map mapT _ rfl _ _ _ rfl rfl rfl rfl (hnx.out.map.drewN 1) (by unfold maxLen; omega) (wf_u64.2 (by omega)) (wf_i64.2 (by omega)) ?_
        intro w3 hm3 hg3
        have hN : ReadI zs w gm gm gh (A) n c (some ⟨b, off, none⟩) m c2 (k + 1) w3 := by
          refine ReadI.live (wr := W.drewN 1) (hnx.out.next (wr' := W.drewN 1) (below_drewN (Below.refl _ _) 1)) HF.out hg3 ?_
          rw [HSE.out]; exact hm3
        have HN := Lib.hid hN
        clear hN hm3 hg3 e0 e1 q0 q1 q2 q3 q4
        go_wp2
        go_roundw
        case rel => exact ⟨k + 1, by omega, by go_num, HN.out⟩
        case measure => simp [intOf]; omega
      · have HF := Lib.hid hf
        rw [hf] at q4
        have hnx := Lib.hid ((hI.out.next ((Below.refl _ wr).alloc (Nat.le_refl _) (.cells #[.int .i64 (st zs k), .int .i64 (vR (nth zs (st zs k))), .int .i64 (vB (nth zs (st zs k))), .int .i64 (vT (nth zs (st zs k))), .bool true] 98))).free hf)
        clear hf hst hs hI
        generalize vR (nth zs (st zs k)) = R at *
        generalize vB (nth zs (st zs k)) = Bd at *
        generalize vT (nth zs (st zs k)) = T at *
        generalize st zs k = s at *
        go_wp2
        go_roundw
        case rel => exact ⟨k + 1, by omega, by go_num, hnx.out⟩
        case measure => simp [intOf]; omega
    · obtain rfl : k = m := by omega
      clear hlt hlen
      have HX : Hid (mapTo zs k = ixOf zs) := Lib.hid (by unfold ixOf; rw [HM.out])
      go_wp2_with fail
      go_loopw [49] (fun i wr => ∃ j : Nat, j ≤ k ∧ i = .int .i64 j ∧ Hid (∀ i, i < j → refsIn zs (st zs i) = true) ∧ Hid (ReadI zs w gm gm gh A n c A2 k c2 k wr)) (fun i _ => k - (intOf i).toNat)
      case atStart => exact ⟨0, by omega, rfl, (fun i hi => absurd hi (by omega)), hI⟩
      case round =>
        obtain ⟨j, hj, rfl, HP, hJ⟩ := hrel
        clear hI
        by_cases hlt : j < k
        · obtain ⟨hs, hsn, hst⟩ := HS.out j hlt
          obtain ⟨b, off, rfl, _, q0, q1, q2, q3, q4⟩ := hJ.out.spots.spot hlt
          rw [hs] at q0 q1 q2 q3 q4
          unfold spOf at q0 q1 q2 q3 q4
          simp only at q0 q1 q2 q3 q4
          have hba := (Below.refl _ wr).alloc (Nat.le_refl _) (.cells #[.int .i64 (st zs j), .int .i64 (vR (nth zs (st zs j))), .int .i64 (vB (nth zs (st zs j))), .int .i64 (vT (nth zs (st zs j))), .bool (vF (nth zs (st zs j)))] 98)
          have hnx := hJ.out.next hba
          have HBX := Lib.hid (Box.new wr 98 #[.int .i64 (st zs j), .int .i64 (vR (nth zs (st zs j))), .int .i64 (vB (nth zs (st zs j))), .int .i64 (vT (nth zs (st zs j))), .bool (vF (nth zs (st zs j)))])
          have HC := Lib.hid (refs_any A n c (some ⟨b, off, none⟩) k c2 gm zs (st zs j) _ w.heap.size (HA0.out.below hnx.below (Nat.le_refl _)) hnx.below.size (by omega) hnc hsn hst)
          have h0 := hnx.heap.cell 0
          have h1 := hnx.heap.cell 1
          have h2 := hnx.heap.cell 2
          rw [show (#[.slice A n c, .slice (some ⟨b, off, none⟩) k c2, .map (some gm)] : Array Value)[0]? = some (.slice A n c) from rfl] at h0
          rw [show (#[.slice A n c, .slice (some ⟨b, off, none⟩) k c2, .map (some gm)] : Array Value)[1]? = some (.slice (some ⟨b, off, none⟩) k c2) from rfl] at h1
          rw [show (#[.slice A n c, .slice (some ⟨b, off, none⟩) k c2, .map (some gm)] : Array Value)[2]? = some (.map (some gm)) from rfl] at h2
          have HNX := Lib.hid hnx
          clear hba hnx hs hst hJ
          obtain ⟨s, hse⟩ : ∃ s, st zs j = s := ⟨_, rfl⟩
          have HSE := Lib.hid hse
          rw [hse] at q0 q1 q2 q3 q4 HNX hsn HBX HC h0 h1 h2
          clear hse
          generalize vR (nth zs s) = R at *
          generalize vB (nth zs s) = Bd at *
          generalize vT (nth zs s) = T at *
          generalize vF (nth zs s) = F at *
          go_wp2_with fail
          refine HC.out.mono ?_
          rintro e w3 ⟨D, d, rfl, b3, hD⟩
          have HJ3 := Lib.hid (HNX.out.next b3)
          have HD := Lib.hid hD
          obtain ⟨rl, hrl⟩ : ∃ r, (refWords zs s).length = r := ⟨_, rfl⟩
          rw [hrl] at HD ⊢
          have hrl2 : rl ≤ 256 := by
            have : (refWords zs s).length ≤ zs.length := by unfold refWords; simp; omega
            omega
          have HRL := Lib.hid hrl
          clear b3 hD HC HNX HBX q0 q1 q2 q3 q4 h0 h1 h2 hrl
          go_wp2_with fail
          go_loopw [57] (fun i wx => ∃ i' : Nat, i' ≤ rl ∧ i = .int .i64 i' ∧ Hid (∀ x, x < i' → (ixOf zs (nth (refWords zs s) x)).isSome = true) ∧ Hid (ReadI zs w gm gm gh A n c (some ⟨b, off, none⟩) k c2 k wx) ∧ Hid (Arr .u64 wx w.heap.size D rl (refWords zs s))) (fun i _ => rl - (intOf i).toNat)
          case atStart => exact ⟨0, by omega, rfl, (fun i hi => absurd hi (by omega)), HJ3, HD⟩
          case round =>
            obtain ⟨i, hi, rfl, HQ, hJ, hA⟩ := hrel
            clear HJ3 HD
            by_cases hil : i < rl
            · obtain ⟨b4, o4, rfl, _, hcs⟩ := hA.out.2.2 (by omega)
              have hc4 := hcs i hil
              clear hcs
              have hwf := hA.out.2.1 (nth (refWords zs s) i) (by rw [nth_get _ _ (by have := HRL.out; omega)]; exact List.getElem_mem _)
              have hlk := hJ.out.map.lookOk mapT hwf
              rw [HX.out] at hlk
              have h2 : wr.cell? ⟨gh, 2, none⟩ = some (.map (some gm)) := hJ.out.heap.cell 2
              clear hwf
              cases ho : (ixOf zs (nth (refWords zs s) i)).isSome
              · have HO := Lib.hid ho
                rw [ho] at hlk
                generalize (ixOf zs (nth (refWords zs s) i)).getD 0 = V at *
                have s0 := hJ.out.res.soft 0
                have s1 := hJ.out.res.soft 1
                have s2 := hJ.out.res.soft 2
                have d0 : wr.cell? ⟨w.heap.size, 0, none⟩ = some (.slice none 0 0) := hJ.out.res.cell 0
                have d1 : wr.cell? ⟨w.heap.size, 1, none⟩ = some (.slice none 0 0) := hJ.out.res.cell 1
                have d2 : wr.cell? ⟨w.heap.size, 2, none⟩ = some (.map none) := hJ.out.res.cell 2
                have HAR : Hid (arErr zs = 5) := Lib.hid (arErr_none HE.out (all_not (j := j) (by rw [HM.out]; exact hlt) (by
                  show refsIn zs (st zs j) = false
                  rw [HSE.out]
                  exact all_not (j := i) (by rw [HRL.out]; exact hil) HO.out)))
                clear ho hA HQ HP
                obtain ⟨X, hX⟩ : ∃ X, nth (refWords zs s) i = X := ⟨_, rfl⟩
                rw [hX] at hlk hc4
                clear hX HO
                go_wp2
                have BY := ((hJ.out.res.set 0 (.slice none 0 0)).set 1 (.slice none 0 0)).set 2 (.map none)
                have HB' := below_set (below_set (below_set hJ.out.below (Nat.le_refl _) 0 (.slice none 0 0)) (Nat.le_refl _) 1 (.slice none 0 0)) (Nat.le_refl _) 2 (.map none)
                generalize (((wr.setCell ⟨w.heap.size, 0, none⟩ (.slice none 0 0)).setCell ⟨w.heap.size, 1, none⟩ (.slice none 0 0)).setCell ⟨w.heap.size, 2, none⟩ (.map none)) = W at *
                have x0 : W.cell? ⟨w.heap.size, 0, none⟩ = some (.slice none 0 0) := BY.cell 0
                have x1 : W.cell? ⟨w.heap.size, 1, none⟩ = some (.slice none 0 0) := BY.cell 1
                have x2 : W.cell? ⟨w.heap.size, 2, none⟩ = some (.map none) := BY.cell 2
                refine bodyPost_ret (v := .tuple #[.agg #[.slice none 0 0, .slice none 0 0, .map none], .int .i64 5]) (by simp [results, Try.results76, go_sem, x0, x1, x2]) rfl ⟨HB', .inl ⟨by rw [HAR.out]; decide, by rw [HAR.out]⟩⟩
              · have HO := Lib.hid ho
                rw [ho] at hlk
                generalize (ixOf zs (nth (refWords zs s) i)).getD 0 = V at *
                clear ho
                obtain ⟨X, hX⟩ : ∃ X, nth (refWords zs s) i = X := ⟨_, rfl⟩
                rw [hX] at hlk hc4
                have HXX := Lib.hid hX
                clear hX
                go_wp2
                go_roundw
                case rel =>
                  refine ⟨i + 1, by omega, by go_num, fun x hx => ?_, hJ, hA⟩
                  rcases Nat.lt_succ_iff_lt_or_eq.1 hx with h | h
                  · exact HQ.out x h
                  · rw [h]; exact HO.out
                case measure => simp [intOf]; omega
            · obtain rfl : i = rl := by omega
              have HPn : Hid (∀ i, i < j + 1 → refsIn zs (st zs i) = true) := fun x hx => by
                rcases Nat.lt_succ_iff_lt_or_eq.1 hx with h | h
                · exact HP.out x h
                · rw [h, HSE.out]
                  exact all_of fun y hy => HQ.out y (by rw [HRL.out] at hy; exact hy)
              clear HQ HP
              go_wp2
              go_roundw
              case rel => exact ⟨j + 1, by omega, by go_num, HPn, hJ⟩
              case measure => simp [intOf]; omega
        · obtain rfl : j = k := by omega
          have HAR : Hid (arErr zs = 0) := Lib.hid (arErr_ok HE.out (all_of (l := begins zs 0) (p := refsIn zs) fun x hx => HP.out x (by rw [HM.out] at hx; exact hx)))
          have s0 := hJ.out.res.soft 0
          have s1 := hJ.out.res.soft 1
          have s2 := hJ.out.res.soft 2
          have d0 : wr.cell? ⟨w.heap.size, 0, none⟩ = some (.slice none 0 0) := hJ.out.res.cell 0
          have d1 : wr.cell? ⟨w.heap.size, 1, none⟩ = some (.slice none 0 0) := hJ.out.res.cell 1
          have d2 : wr.cell? ⟨w.heap.size, 2, none⟩ = some (.map none) := hJ.out.res.cell 2
          have h0 : wr.cell? ⟨gh, 0, none⟩ = some (.slice A n c) := hJ.out.heap.cell 0
          have h1 : wr.cell? ⟨gh, 1, none⟩ = some (.slice A2 j c2) := hJ.out.heap.cell 1
          have h2 : wr.cell? ⟨gh, 2, none⟩ = some (.map (some gm)) := hJ.out.heap.cell 2
          clear HP
          go_wp2
          have BY := ((hJ.out.res.set 0 (.slice A n c)).set 1 (.slice A2 j c2)).set 2 (.map (some gm))
          have HB' := below_set (below_set (below_set hJ.out.below (Nat.le_refl _) 0 (.slice A n c)) (Nat.le_refl _) 1 (.slice A2 j c2)) (Nat.le_refl _) 2 (.map (some gm))
          have hsp := ((hJ.out.spots.setOther hJ.out.high (Nat.lt_succ_self _) 0 (.slice A n c)).setOther hJ.out.high (Nat.lt_succ_self _) 1 (.slice A2 j c2)).setOther hJ.out.high (Nat.lt_succ_self _) 2 (.map (some gm))
          have hmp := ((hJ.out.map.setOther (g := w.heap.size) (by have := hJ.out.o1; have := hJ.out.o2; omega) 0 (.slice A n c)).setOther (g := w.heap.size) (by have := hJ.out.o1; have := hJ.out.o2; omega) 1 (.slice A2 j c2)).setOther (g := w.heap.size) (by have := hJ.out.o1; have := hJ.out.o2; omega) 2 (.map (some gm))
          have hgs := hJ.out.map.lt
          have hws : wr.heap.size = (((wr.setCell ⟨w.heap.size, 0, none⟩ (.slice A n c)).setCell ⟨w.heap.size, 1, none⟩ (.slice A2 j c2)).setCell ⟨w.heap.size, 2, none⟩ (.map (some gm))).heap.size := by simp [World.setCell]
          generalize (((wr.setCell ⟨w.heap.size, 0, none⟩ (.slice A n c)).setCell ⟨w.heap.size, 1, none⟩ (.slice A2 j c2)).setCell ⟨w.heap.size, 2, none⟩ (.map (some gm))) = W at *
          have x0 : W.cell? ⟨w.heap.size, 0, none⟩ = some (.slice A n c) := BY.cell 0
          have x1 : W.cell? ⟨w.heap.size, 1, none⟩ = some (.slice A2 j c2) := BY.cell 1
          have x2 : W.cell? ⟨w.heap.size, 2, none⟩ = some (.map (some gm)) := BY.cell 2
          refine bodyPost_ret (v := .tuple #[.agg #[.slice A n c, .slice A2 j c2, .map (some gm)], .int .i64 0]) (by simp [results, Try.results76, go_sem, x0, x1, x2]) rfl ⟨HB', .inr ⟨HAR.out, A2, c2, gm, by rw [HM.out], by rw [HM.out]; exact HC2.out, by rw [HM.out]; exact hsp.more (by rw [← hws]; omega), by rw [HM.out]; exact hJ.out.high.less (by omega), by have := hJ.out.o1; have := hJ.out.o2; omega, by rw [← HX.out]; exact hmp.mono (by omega)⟩⟩

end Go.Proofs.Ytknbbondofijeaa
