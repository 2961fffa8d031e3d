/-
  Parts of the proof of SameForms: TintR.
-/
import Derived.Test.YtjefbekdjgmmbaaSameFormsAf
import Derived.Test.YtjefbekdjgmmbaaSameFormsAh
import Derived.Test.YtjefbekdjgmmbaaSameFormsAi
import Derived.Test.YtjefbekdjgmmbaaSameFormsAj
namespace Go.Proofs.Ytjefbekdjgmmbaa
open Go.RowKit
/-- What New answers. -/
def NewM (n : Nat) (w : World) (e : Ending) (w' : World) : Prop := ∃ A c, e = .returned (.tuple #[.slice A ((n + 63) / 64) c, .int .i64 0]) ∧ Arr .u64 w' w'.heap.size A ((n + 63) / 64) (List.replicate ((n + 63) / 64) 0) ∧ High w.heap.size A ((n + 63) / 64) ∧ Below w.heap.size w w'
set_option maxHeartbeats 400000 in
theorem spotNew_any (n : Nat) (w : World) (hn : n ≤ 256) : Calls Try.prog 88 #[.int .i64 n] w (NewM n w) := by
  have HN := Lib.hid (fun w => number_any n w (wf_i64.2 (by omega)))
  rw [numB_true (by omega) (by omega)] at HN
  have HS := Lib.hid (fun w => size_any n w hn)
  unfold NewM
  obtain ⟨L, hL⟩ : ∃ L, (n + 63) / 64 = L := ⟨_, rfl⟩
  rw [hL] at HS ⊢
  have hL4 : L ≤ 4 := by omega
  have hmk := fun wx => run_make_row' (P := Try.prog) 22 47 (.int .u64 0) 8 Try.underlying22 u64_info rfl .i64 .i64 L (by omega) (by omega) wx
  have hW1 : Whole .u64 47 (w.alloc (.cells (madeCells #[Value.int .u64 0] L) 47)) w.heap.size (List.replicate L 0) := by
    rw [made_replicate]
    exact whole_new .u64 47 w _ (fun z hz => by rw [List.eq_of_mem_replicate hz]; rfl)
  have HA : Hid (Arr .u64 (w.alloc (.cells (madeCells #[Value.int .u64 0] L) 47)) (w.alloc (.cells (madeCells #[Value.int .u64 0] L) 47)).heap.size (some ⟨w.heap.size, 0, none⟩) L (List.replicate L 0)) := by
    have := hW1.arr (B := (w.alloc (.cells (madeCells #[Value.int .u64 0] L) 47)).heap.size) hW1.lt
    rwa [List.length_replicate] at this
  have HH : Hid (High w.heap.size (some ⟨w.heap.size, 0, none⟩) L) := fun b off _ e => by injection e with e; injection e with e; omega
  have HB1 : Hid (Below w.heap.size w (w.alloc (.cells (madeCells #[Value.int .u64 0] L) 47))) := (Below.refl _ _).alloc (Nat.le_refl _) _
  clear hW1 hL
  go_enter Try.func88, Try.ntmps88
  go_wp2_with fail
  refine (HN.out _).mono ?_
  rintro e w' ⟨rfl, rfl⟩
  go_wp2_with fail
  refine (HS.out _).mono ?_
  rintro e w' ⟨rfl, rfl⟩
  go_wp2
  go_ret2
  exact ⟨_, _, rfl, HA.out, HH.out, HB1.out⟩
theorem headT : MapVT Try.prog .i64 104 3 44 (.agg #[.int .i64 0, .int .i64 0, .int .i64 0, .bool false]) := ⟨Try.underlying104, Try.underlying3, fun _ => by kernel_rfl⟩
/-- No heap. -/
def heapZ : Value := .agg #[.slice none 0 0, .map none, .slice none 0 0]
/-- What read answers. -/
def ReadH (A : Option Addr) (n c : Nat) (zs fr : List Int) (w : World) (e : Ending) (w' : World) : Prop := Below w.heap.size w w' ∧
  ((fromE zs fr ≠ 0 ∧ e = .returned (.tuple #[heapZ, .int .i64 (fromE zs fr)])) ∨
   (fromE zs fr = 0 ∧ ∃ b S sc, e = .returned (.tuple #[.agg #[.slice A n c, .map (some b), .slice S (livesI zs).length sc], .int .i64 0]) ∧ MapV Try.prog .i64 3 w' b 300 (hdOf zs) ∧ w.heap.size ≤ b ∧ Arr .i64 w' w'.heap.size S (livesI zs).length (livesI zs)))
/-- What holds while read goes over the spots. -/
structure TReadI (zs : List Int) (w : World) (B1 gm gh : Nat) (A : Option Addr) (n c : Nat) (A2 : Option Addr) (m k : Nat) (v : Value) (wr : World) : Prop where
  res : Box wr w.heap.size 106 #[.slice none 0 0, .map none, .slice none 0 0]
  heap : Box wr gh 106 #[.slice A n c, .map (some gm), v]
  map : MapV Try.prog .i64 3 wr gm k (hdTo zs k)
  own : Own .i64 3 wr (gh + 1) v (liveTo zs k)
  spots : ArrG spotC 5 wr B1 A2 m (spList zs)
  below : Below w.heap.size w wr
  o1 : w.heap.size < B1
  o2 : B1 ≤ gm
  o3 : gm < gh
theorem Own.keepB {k : IntKind} {e : TypeId} {w w' : World} {base : Nat} {v : Value} {xs : List Int} (h : Own k e w base v xs) (hb : ∀ i, base ≤ i → i < w.heap.size → w'.heap[i]? = w.heap[i]?) : Own k e w' base v xs := by
  obtain ⟨⟨hl, h2⟩, hw⟩ := h
  refine ⟨⟨hl, h2.imp id ?_⟩, hw⟩
  rintro ⟨g, cap, cur, hv, hg, hh, r⟩
  refine ⟨g, cap, cur, hv, hg, ?_, r⟩
  rw [hb g hg ?_]; exact hh
  rcases Nat.lt_or_ge g w.heap.size with h | h
  · exact h
  · rw [Array.getElem?_eq_none h] at hh; cases hh
theorem heap_setOther (w : World) {g b : Nat} (h : b ≠ g) (j : Nat) (d : Value) : (w.setCell ⟨g, j, none⟩ d).heap[b]? = w.heap[b]? := by
  show (w.heap.modify g _)[b]? = _
  rw [Array.getElem?_modify, if_neg (by omega)]
section
variable {zs : List Int} {w wr wr' : World} {B1 gm gh n c m k : Nat} {A A2 : Option Addr} {v v' : Value}
theorem TReadI.next (h : TReadI zs w B1 gm gh A n c A2 m k v wr) (hb : Below wr.heap.size wr wr') : TReadI zs w B1 gm gh A n c A2 m k v wr' :=
  ⟨h.res.below hb h.res.lt, h.heap.below hb h.heap.lt, h.map.below hb h.map.lt, h.own.below hb, h.spots.below hb (by have := h.map.lt; have := h.o2; omega), h.below.trans (hb.mono h.below.size), h.o1, h.o2, h.o3⟩
theorem TReadI.free (h : TReadI zs w B1 gm gh A n c A2 m k v wr) (hk : k < (begins zs 0).length) (hf : vF (nth zs (st zs k)) = true) : TReadI zs w B1 gm gh A n c A2 m (k + 1) v wr :=
  ⟨h.res, h.heap, by rw [hdTo_no hk hf]; exact h.map.mono (by omega), by rw [liveTo_no hk hf]; exact h.own, h.spots, h.below, h.o1, h.o2, h.o3⟩
/-- The header goes into the map. -/
theorem TReadI.put (h : TReadI zs w B1 gm gh A n c A2 m k v wr) (hg : wr.grownBy wr' (some gm)) :
    Box wr' w.heap.size 106 #[.slice none 0 0, .map none, .slice none 0 0] ∧ Box wr' gh 106 #[.slice A n c, .map (some gm), v] ∧ Own .i64 3 wr' (gh + 1) v (liveTo zs k) ∧ ArrG spotC 5 wr' B1 A2 m (spList zs) ∧ Below w.heap.size w wr' := by
  have o1 := h.o1
  have o2 := h.o2
  have o3 := h.o3
  have hl := h.map.lt
  have hs := h.below.size
  exact ⟨h.res.grown hg (by omega), h.heap.grown hg (by omega), h.own.keepB fun i hi hlt => hg.block i hlt (by intro e; injection e; omega), h.spots.below (grown_below hg h.o2 (by omega)) (Nat.le_refl _), h.below.trans (grown_below hg (by omega) hs)⟩
/-- The word goes into the list. -/
theorem TReadI.live {wq : World} (o1 : w.heap.size < B1) (o2 : B1 ≤ gm) (o3 : gm < gh) (hk : k < (begins zs 0).length) (hf : vF (nth zs (st zs k)) = false) (hr : Box wr w.heap.size 106 #[.slice none 0 0, .map none, .slice none 0 0]) (hh : Box wr gh 106 #[.slice A n c, .map (some gm), v])
    (hm : MapV Try.prog .i64 3 wr gm (k + 1) (putV (hdTo zs k) (st zs k : Int) (headV zs (st zs k)))) (hs : ArrG spotC 5 wr B1 A2 m (spList zs)) (hb : Below w.heap.size w wr) (hq : Below (gh + 1) wr wq) (ho : Own .i64 3 wq (gh + 1) v' (liveTo zs k ++ [(st zs k : Int)])) :
    TReadI zs w B1 gm gh A n c A2 m (k + 1) v' (wq.setCell ⟨gh, 2, none⟩ v') := by
  have hz := hb.size
  refine ⟨(hr.below hq (by omega)).setOther (by omega) _ _, ?_, ?_, ?_, ?_, ?_, o1, o2, o3⟩
  · have := (hh.below hq (by omega)).set 2 v'
    exact this
  · rw [hdTo_yes hk hf]
    exact (hm.below hq (by omega)).setOther (by omega) _ _
  · rw [liveTo_yes hk hf]
    exact ho.keepB fun i hi _ => heap_setOther wq (by omega) _ _
  · have h1 := hs.below hq (by omega)
    exact h1.keep fun p hp => by
      have := heap_setOther wq (g := gh) (b := p.block) (by omega) 2 v'
      simp [World.cell?, this]
  · exact below_set (hb.trans (hq.mono (by omega))) (by omega) _ _
end
set_option maxRecDepth 8000 in
set_option maxHeartbeats 2000000 in
theorem tread_bad (A F : Option Addr) (n c nf cf : Nat) (zs fr : List Int) (w : World) (hn : n ≤ maxLen) (hnc : n ≤ c) (ha : Arr .u64 w w.heap.size A n zs) (h : arErr zs ≠ 0) :
    Calls Try.prog 59 #[.slice A n c, .slice F nf cf] w (ReadH A n c zs fr w) := by
  have b0 := (Below.refl _ w).alloc (Nat.le_refl _) (.cells #[.slice none 0 0, .map none, .slice none 0 0] 106)
  have HC := Lib.hid (Check_any A n c zs _ hn hnc ((ha.below b0 (Nat.le_refl _)).more b0.size))
  have HE := Lib.hid (fromE_arena (fr := fr) h)
  have H0 := Lib.hid h
  clear ha b0
  generalize arErr zs = E at *
  have hb : (E != 0) = true := by simpa using h
  clear h
  go_enter Try.func59, Try.ntmps59
  go_wp2_with fail
  refine HC.out.mono ?_
  rintro e w1 ⟨rfl, b1⟩
  obtain ⟨bx, b1⟩ := boxed_call b1
  have s0 := bx.soft 0
  have s1 := bx.soft 1
  have s2 := bx.soft 2
  have d0 : w1.cell? ⟨w.heap.size, 0, none⟩ = some (.slice none 0 0) := bx.cell 0
  have d1 : w1.cell? ⟨w.heap.size, 1, none⟩ = some (.map none) := bx.cell 1
  have d2 : w1.cell? ⟨w.heap.size, 2, none⟩ = some (.slice none 0 0) := bx.cell 2
  have BX := Lib.hid bx
  have HB := Lib.hid b1
  clear bx b1 HC
  go_wp2
  have BY := ((BX.out.set 0 (.slice none 0 0)).set 1 (.map none)).set 2 (.slice none 0 0)
  have HB' := below_set (below_set (below_set HB.out (Nat.le_refl _) 0 (.slice none 0 0)) (Nat.le_refl _) 1 (.map none)) (Nat.le_refl _) 2 (.slice none 0 0)
  generalize (((w1.setCell ⟨w.heap.size, 0, none⟩ (.slice none 0 0)).setCell ⟨w.heap.size, 1, none⟩ (.map none)).setCell ⟨w.heap.size, 2, none⟩ (.slice none 0 0)) = W at *
  have x0 : W.cell? ⟨w.heap.size, 0, none⟩ = some (.slice none 0 0) := BY.cell 0
  have x1 : W.cell? ⟨w.heap.size, 1, none⟩ = some (.map none) := BY.cell 1
  have x2 : W.cell? ⟨w.heap.size, 2, none⟩ = some (.slice none 0 0) := BY.cell 2
  refine bodyPost_ret (v := .tuple #[.agg #[.slice none 0 0, .map none, .slice none 0 0], .int .i64 E]) (by simp [results, Try.results59, go_sem, x0, x1, x2]) rfl ⟨HB', .inl ⟨by rw [HE.out]; exact H0.out, by rw [HE.out]; rfl⟩⟩
set_option maxRecDepth 8000 in
set_option maxHeartbeats 4000000 in
theorem tread_good (A F : Option Addr) (n c nf cf : Nat) (zs fr : List Int) (w : World) (hn : n ≤ maxLen) (hnc : n ≤ c) (ha : Arr .u64 w w.heap.size A n zs) (hnf : nf ≤ maxLen) (hfr : Arr .i64 w w.heap.size F nf fr) (h : arErr zs = 0) :
    Calls Try.prog 59 #[.slice A n c, .slice F nf cf] w (ReadH A n c zs fr w) := by
  unfold maxLen at hnf
  obtain ⟨hsp, hrf⟩ := arErr_zero h
  obtain ⟨h256, hfine⟩ := spErr_zero hsp
  have hl := ha.1
  have hL := spList_ok hsp
  have hbl := begins_len (zs := zs) (a := 0)
  have hlen : (spList zs).length = (begins zs 0).length := by rw [hL]; simp
  obtain ⟨m, hm⟩ : ∃ m, (begins zs 0).length = m := ⟨_, rfl⟩
  rw [hm] at hlen hbl
  have hspot : ∀ k, k < m → nthG (spList zs) k = spOf zs (st zs k) ∧ st zs k < n := fun k hk => by
    have h1 := begins_mem (st_mem (zs := zs) (k := k) (by omega))
    exact ⟨by rw [hL, nthG_map _ _ _ (by omega)]; rfl, by omega⟩
  have b0 := (Below.refl _ w).alloc (Nat.le_refl _) (.cells #[.slice none 0 0, .map none, .slice none 0 0] 106)
  have HC := Lib.hid (Check_any A n c zs _ hn hnc ((ha.below b0 (Nat.le_refl _)).more b0.size))
  rw [h] at HC
  have HA0 := Lib.hid ha
  have HF0 := Lib.hid hfr
  have HAR := Lib.hid h
  have HE := Lib.hid hsp
  have HS := Lib.hid hspot
  have HM := Lib.hid hm
  clear b0 ha hfr h hsp hrf hfine hL hspot hm
  have hmm := @run_makeMap Try.prog
  go_enter Try.func59, Try.ntmps59
  go_wp2_with fail
  refine HC.out.mono ?_
  rintro e w0 ⟨rfl, b1⟩
  obtain ⟨bx, b1⟩ := boxed_call b1
  have HB0 := Lib.hid b1
  have BX0 := Lib.hid bx
  have HSP := Lib.hid (Spots_any A n c zs w0 hn ((HA0.out.below b1 (Nat.le_refl _)).more b1.size))
  clear b1 bx HC
  go_wp2_with fail
  refine HSP.out.mono ?_
  rintro e w1 ⟨A2, c2, rfl, b1, hc2, hA2, hi2⟩
  rw [HE.out]
  rw [hlen] at hA2 hc2 hi2 ⊢
  have HB1 := Lib.hid (HB0.out.trans (b1.mono HB0.out.size))
  have BX := Lib.hid (BX0.out.below b1 BX0.out.lt)
  have HA2 := Lib.hid hA2
  clear b1 HSP hA2 hc2 hi2 BX0 HB0
  go_wp2_with fail
  have bm : Below w1.heap.size w1 (w1.alloc (.map #[] 0)) := (Below.refl _ w1).alloc (Nat.le_refl _) _
  have hI : TReadI zs w w1.heap.size w1.heap.size (w1.heap.size + 1) A n c A2 m 0 (.slice none 0 0) ((w1.alloc (.map #[] 0)).alloc (.cells #[.slice A n c, .map (some w1.heap.size), .slice none 0 0] 106)) := by
    have e1 : (w1.alloc (.map #[] 0)).heap.size = w1.heap.size + 1 := by simp
    refine ⟨(BX.out.below bm BX.out.lt).alloc _, by have := Box.new (w1.alloc (.map #[] 0)) 106 #[.slice A n c, .map (some w1.heap.size), .slice none 0 0]; rwa [e1] at this, ?_, Own.nil, HA2.out.below (bm.alloc (by omega) _) (Nat.le_refl _), (HB1.out.trans (bm.mono HB1.out.size)).alloc (by have := HB1.out.size; omega) _, BX.out.lt, Nat.le_refl _, by omega⟩
    rw [hdTo_zero]
    exact (MapV.made Try.prog .i64 3 w1).alloc _
  have HI := Lib.hid hI
  clear hI bm hmm
  generalize ((w1.alloc (.map #[] 0)).alloc (.cells #[.slice A n c, .map (some w1.heap.size), .slice none 0 0] 106)) = W1 at *
  obtain ⟨gm, hgm⟩ : ∃ g, w1.heap.size = g := ⟨_, rfl⟩
  rw [hgm] at HI
  rw [hgm]
  obtain ⟨gh, hgh⟩ : ∃ g, gm + 1 = g := ⟨_, rfl⟩
  rw [hgh] at HI
  rw [hgh]
  clear hgm hgh
  go_loopw [36] (fun i wr => ∃ (k : Nat) (v : Value), k ≤ m ∧ i = .int .i64 k ∧ Hid (TReadI zs w gm gm gh A n c A2 m k v wr)) (fun i _ => m - (intOf i).toNat)
  case atStart => exact ⟨0, _, by omega, rfl, HI⟩
  case round =>
    obtain ⟨k, v, hk, rfl, hI⟩ := hrel
    clear HI BX HB1 HA2
    by_cases hlt : k < m
    · obtain ⟨hs, hsn⟩ := HS.out k hlt
      have hkb : k < (begins zs 0).length := by rw [HM.out]; exact hlt
      obtain ⟨b, off, rfl, _, q0, q1, q2, q3, q4⟩ := hI.out.spots.spot hlt
      rw [hs] at q0 q1 q2 q3 q4
      unfold spOf at q0 q1 q2 q3 q4
      simp only at q0 q1 q2 q3 q4
      cases hf : vF (nth zs (st zs k))
      · have HF := Lib.hid hf
        have HKB := Lib.hid hkb
        have HGM : Hid (gm < wr.heap.size) := hI.out.map.lt
        rw [hf] at q4
        have hnx := Lib.hid (hI.out.next ((Below.refl _ wr).alloc (Nat.le_refl _) (.cells #[.int .i64 (st zs k), .int .i64 (vR (nth zs (st zs k))), .int .i64 (vB (nth zs (st zs k))), .int .i64 (vT (nth zs (st zs k))), .bool false] 80)))
        have HBX := Lib.hid (Box.new wr 80 #[.int .i64 (st zs k), .int .i64 (vR (nth zs (st zs k))), .int .i64 (vB (nth zs (st zs k))), .int .i64 (vT (nth zs (st zs k))), .bool false])
        have HHV : Hid (headV zs (st zs k) = .agg #[.int .i64 (vR (nth zs (st zs k))), .int .i64 (vB (nth zs (st zs k))), .int .i64 (vT (nth zs (st zs k))), .bool false]) := by
          show _ = _
          unfold headV; rw [hf]
        clear hf hs hI hkb
        obtain ⟨s, hse⟩ : ∃ s, st zs k = s := ⟨_, rfl⟩
        have HSE := Lib.hid hse
        rw [hse] at q0 q1 q2 q3 hnx hsn HBX HHV
        clear hse
        generalize vR (nth zs s) = R at *
        generalize vB (nth zs s) = Bd at *
        generalize vT (nth zs s) = T at *
        have e5 : (wr.alloc (.cells #[.int .i64 s, .int .i64 R, .int .i64 Bd, .int .i64 T, .bool false] 80)).cell? ⟨gh, 1, none⟩ = some (.map (some gm)) := hnx.out.heap.cell 1
        have hws : (Lit.int .i64 (s : Int)).wf = true := wf_i64.2 (by omega)
        have HK : Hid (∀ w3, MapV Try.prog .i64 3 w3 gm (k + 1) (putV (hdTo zs k) (s : Int) (.agg #[.int .i64 R, .int .i64 Bd, .int .i64 T, .bool false])) → (wr.alloc (.cells #[.int .i64 s, .int .i64 R, .int .i64 Bd, .int .i64 T, .bool false] 80)).grownBy w3 (some gm) →
            w3.cell? ⟨wr.heap.size, 0, none⟩ = some (.int .i64 s) ∧ w3.cell? ⟨gh, 2, none⟩ = some v ∧ ∃ S q sc w4, Sem.run Try.prog (Builtin.append_ #[23, 23] 23 #[v, .slice (some ⟨w3.heap.size, 0, none⟩) 1 1]) (w3.alloc (.cells #[.int .i64 s] 3)) = .ok (.slice S q sc) w4 ∧
              w4.cell? ⟨gh, 2, none⟩ = some v ∧ w4.frozen? ⟨gh, 2, none⟩ = false ∧ Hid (TReadI zs w gm gm gh A n c (some ⟨b, off, none⟩) m (k + 1) (.slice S q sc) (w4.setCell ⟨gh, 2, none⟩ (.slice S q sc)))) := by
          intro w3 hm3 hg3
          obtain ⟨r1, r2, r3, r4, r5⟩ := hnx.out.put hg3
          obtain ⟨v', w4, hrun, hO', hB'⟩ := r3.push (P := Try.prog) (t := 23) (ty := 23) Try.underlying23 intI_info (by omega) (x := (s : Int)) hws (by have := liveTo_len (zs := zs) k; omega) r2.lt
          obtain ⟨S, sc, rfl, _, _⟩ := hO'.arr
          refine ⟨(HBX.out.grown hg3 (by have := HGM.out; omega)).cell 0, r2.cell 2, S, _, sc, w4, hrun, (r2.below hB' (by omega)).cell 2, (r2.below hB' (by omega)).soft 2, ?_⟩
          refine TReadI.live hnx.out.o1 hnx.out.o2 hnx.out.o3 HKB.out HF.out r1 r2 ?_ r4 r5 hB' ?_
          · rw [HSE.out, HHV.out]; exact hm3
          · rw [HSE.out]; exact hO'
        have HMP := Lib.hid hnx.out.map
        clear hnx HBX HHV HKB HF HGM HSE
        go_wp2_with (first
          | (at_mapUpdate; refine wpList_store_mapV headT _ rfl _ _ _ rfl rfl rfl rfl HMP.out (by unfold maxLen; omega) hws ?_; intro w3 hm3 hg3; obtain ⟨f0, f1, S, q, sc, w4, hrun, f2, f3, HN⟩ := HK.out w3 hm3 hg3; have HR := Lib.hid hrun; clear hrun hm3 hg3 e5 q0 q1 q2 q3 q4 HMP HK)
          | (at_builtin; refine wpList_append_run rfl (.tmp 51) (.tmp 54) 23 rfl rfl rfl HR.out ?_))
        go_roundw
        case rel => exact ⟨k + 1, _, by omega, by go_num, HN.out⟩
        case measure => simp [intOf]; omega
      · have HF := Lib.hid hf
        rw [hf] at q4
        have hnx := Lib.hid ((hI.out.next ((Below.refl _ wr).alloc (Nat.le_refl _) (.cells #[.int .i64 (st zs k), .int .i64 (vR (nth zs (st zs k))), .int .i64 (vB (nth zs (st zs k))), .int .i64 (vT (nth zs (st zs k))), .bool true] 80))).free hkb hf)
        clear hf hs hI hkb
        generalize vR (nth zs (st zs k)) = R at *
        generalize vB (nth zs (st zs k)) = Bd at *
        generalize vT (nth zs (st zs k)) = T at *
        generalize st zs k = s at *
        go_wp2
        go_roundw
        case rel => exact ⟨k + 1, v, by omega, by go_num, hnx.out⟩
        case measure => simp [intOf]; omega
    · obtain rfl : k = m := by omega
      clear hlt hlen
      have HX : Hid (hdTo zs k = hdOf zs) := Lib.hid (by unfold hdOf; rw [HM.out])
      have HXL : Hid (liveTo zs k = livesI zs) := Lib.hid (by rw [← HM.out]; exact liveTo_all)
      go_wp2_with fail
      go_loopw [60] (fun i wr => ∃ j : Nat, j ≤ nf ∧ i = .int .i64 j ∧ Hid (∀ i, i < j → nth fr i ∈ livesI zs) ∧ Hid (TReadI zs w gm gm gh A n c A2 k k v wr)) (fun i _ => nf - (intOf i).toNat)
      case atStart => exact ⟨0, by omega, rfl, (fun i hi => absurd hi (by omega)), hI⟩
      case round =>
        obtain ⟨j, hj, rfl, HP, hJ⟩ := hrel
        clear hI
        by_cases hlt : j < nf
        · have hfl := HF0.out.1
          have hwf := HF0.out.2.1 (nth fr j) (nth_mem (by omega))
          obtain ⟨b, off, rfl, _, hcs⟩ := (HF0.out.below hJ.out.below (Nat.le_refl _)).2.2 (by omega)
          have hc := hcs j hlt
          have hlk := hJ.out.map.lookOk headT hwf
          rw [HX.out, hdOf_isSome] at hlk
          have h1 : wr.cell? ⟨gh, 1, none⟩ = some (.map (some gm)) := hJ.out.heap.cell 1
          by_cases hin : nth fr j ∈ livesI zs
          · rw [hdOf_in hin, show decide (nth fr j ∈ livesI zs) = true by simpa using hin] at hlk
            unfold headV at hlk
            simp only [Option.getD_some] at hlk
            have HPn : Hid (∀ i, i < j + 1 → nth fr i ∈ livesI zs) := fun x hx => by
              rcases Nat.lt_succ_iff_lt_or_eq.1 hx with h | h
              · exact HP.out x h
              · rw [h]; exact hin
            have HJ2 := Lib.hid (hJ.out.next ((Below.refl _ wr).alloc (Nat.le_refl _) (.cells #[.int .i64 (vR (nth zs (nth fr j).toNat)), .int .i64 (vB (nth zs (nth fr j).toNat)), .int .i64 (vT (nth zs (nth fr j).toNat)), .bool (vF (nth zs (nth fr j).toNat))] 44)))
            clear hin HP hJ hcs hwf
            generalize vR (nth zs (nth fr j).toNat) = R at *
            generalize vB (nth zs (nth fr j).toNat) = Bd at *
            generalize vT (nth zs (nth fr j).toNat) = T at *
            generalize vF (nth zs (nth fr j).toNat) = G at *
            obtain ⟨X, hX⟩ : ∃ X, nth fr j = X := ⟨_, rfl⟩
            rw [hX] at hlk hc
            clear hX
            go_wp2
            go_roundw
            case rel => exact ⟨j + 1, by omega, by go_num, HPn, HJ2.out⟩
            case measure => simp [intOf]; omega
          · have hnone : hdOf zs (nth fr j) = none := by
              have := hdOf_isSome (zs := zs) (nth fr j)
              rw [show decide (nth fr j ∈ livesI zs) = false by simpa using hin] at this
              simpa using this
            rw [hnone, show decide (nth fr j ∈ livesI zs) = false by simpa using hin] at hlk
            simp only [Option.getD_none] at hlk
            have HFE : Hid (fromE zs fr = 5) := fromE_none HAR.out (nth_mem (by omega)) hin
            have hJ2 := hJ.out.next ((Below.refl _ wr).alloc (Nat.le_refl _) (.cells #[.int .i64 0, .int .i64 0, .int .i64 0, .bool false] 44))
            have HJ2 := Lib.hid hJ2
            have s0 := hJ2.res.soft 0
            have s1 := hJ2.res.soft 1
            have s2 := hJ2.res.soft 2
            have d0 : (wr.alloc (.cells #[.int .i64 0, .int .i64 0, .int .i64 0, .bool false] 44)).cell? ⟨w.heap.size, 0, none⟩ = some (.slice none 0 0) := hJ2.res.cell 0
            have d1 : (wr.alloc (.cells #[.int .i64 0, .int .i64 0, .int .i64 0, .bool false] 44)).cell? ⟨w.heap.size, 1, none⟩ = some (.map none) := hJ2.res.cell 1
            have d2 : (wr.alloc (.cells #[.int .i64 0, .int .i64 0, .int .i64 0, .bool false] 44)).cell? ⟨w.heap.size, 2, none⟩ = some (.slice none 0 0) := hJ2.res.cell 2
            clear hin HP hJ hcs hwf hJ2 hnone
            obtain ⟨X, hX⟩ : ∃ X, nth fr j = X := ⟨_, rfl⟩
            rw [hX] at hlk hc
            clear hX
            go_wp2
            have BY := ((HJ2.out.res.set 0 (.slice none 0 0)).set 1 (.map none)).set 2 (.slice none 0 0)
            have HB' := below_set (below_set (below_set HJ2.out.below (Nat.le_refl _) 0 (.slice none 0 0)) (Nat.le_refl _) 1 (.map none)) (Nat.le_refl _) 2 (.slice none 0 0)
            generalize (wr.alloc (.cells #[.int .i64 0, .int .i64 0, .int .i64 0, .bool false] 44)) = WW at *
            generalize (((WW.setCell ⟨w.heap.size, 0, none⟩ (.slice none 0 0)).setCell ⟨w.heap.size, 1, none⟩ (.map none)).setCell ⟨w.heap.size, 2, none⟩ (.slice none 0 0)) = W at *
            have x0 : W.cell? ⟨w.heap.size, 0, none⟩ = some (.slice none 0 0) := BY.cell 0
            have x1 : W.cell? ⟨w.heap.size, 1, none⟩ = some (.map none) := BY.cell 1
            have x2 : W.cell? ⟨w.heap.size, 2, none⟩ = some (.slice none 0 0) := BY.cell 2
            refine bodyPost_ret (v := .tuple #[.agg #[.slice none 0 0, .map none, .slice none 0 0], .int .i64 5]) (by simp [results, Try.results59, go_sem, x0, x1, x2]) rfl ⟨HB', .inl ⟨by rw [HFE.out]; decide, by rw [HFE.out]; rfl⟩⟩
        · obtain rfl : j = nf := by omega
          have HFE : Hid (fromE zs fr = 0) := fromE_ok HAR.out fun x hx => by
            obtain ⟨i, hi, e⟩ := List.getElem_of_mem hx
            have := HP.out i (by have := HF0.out.1; omega)
            rw [nth_get _ _ hi, e] at this
            exact this
          have hO := hJ.out.own
          rw [HXL.out] at hO
          obtain ⟨S, sc, rfl, _, hS⟩ := hO.arr
          have s0 := hJ.out.res.soft 0
          have s1 := hJ.out.res.soft 1
          have s2 := hJ.out.res.soft 2
          have d0 : wr.cell? ⟨w.heap.size, 0, none⟩ = some (.slice none 0 0) := hJ.out.res.cell 0
          have d1 : wr.cell? ⟨w.heap.size, 1, none⟩ = some (.map none) := hJ.out.res.cell 1
          have d2 : wr.cell? ⟨w.heap.size, 2, none⟩ = some (.slice none 0 0) := hJ.out.res.cell 2
          have h0 : wr.cell? ⟨gh, 0, none⟩ = some (.slice A n c) := hJ.out.heap.cell 0
          have h1 : wr.cell? ⟨gh, 1, none⟩ = some (.map (some gm)) := hJ.out.heap.cell 1
          have h2 : wr.cell? ⟨gh, 2, none⟩ = some (.slice S (livesI zs).length sc) := hJ.out.heap.cell 2
          have HSA := Lib.hid hS
          have HSH := Lib.hid hO.high
          have HMP := Lib.hid hJ.out.map
          rw [HX.out] at HMP
          clear HP hS hO
          obtain ⟨q, hq⟩ : ∃ q, (livesI zs).length = q := ⟨_, rfl⟩
          rw [hq] at h2 HSA HSH hJ
          have HQ := Lib.hid hq
          clear hq
          go_wp2
          have BY := ((hJ.out.res.set 0 (.slice A n c)).set 1 (.map (some gm))).set 2 (.slice S q sc)
          have HB' := below_set (below_set (below_set hJ.out.below (Nat.le_refl _) 0 (.slice A n c)) (Nat.le_refl _) 1 (.map (some gm))) (Nat.le_refl _) 2 (.slice S q sc)
          have o1 := hJ.out.o1
          have o3 := hJ.out.o3
          have hmp := ((HMP.out.setOther (g := w.heap.size) (by omega) 0 (.slice A n c)).setOther (g := w.heap.size) (by omega) 1 (.map (some gm))).setOther (g := w.heap.size) (by omega) 2 (.slice S q sc)
          have hsa := ((HSA.out.setOther HSH.out (g := w.heap.size) (by omega) 0 (.slice A n c)).setOther HSH.out (g := w.heap.size) (by omega) 1 (.map (some gm))).setOther HSH.out (g := w.heap.size) (by omega) 2 (.slice S q sc)
          have hws : wr.heap.size = (((wr.setCell ⟨w.heap.size, 0, none⟩ (.slice A n c)).setCell ⟨w.heap.size, 1, none⟩ (.map (some gm))).setCell ⟨w.heap.size, 2, none⟩ (.slice S q sc)).heap.size := by simp [World.setCell]
          generalize (((wr.setCell ⟨w.heap.size, 0, none⟩ (.slice A n c)).setCell ⟨w.heap.size, 1, none⟩ (.map (some gm))).setCell ⟨w.heap.size, 2, none⟩ (.slice S q sc)) = W at *
          have x0 : W.cell? ⟨w.heap.size, 0, none⟩ = some (.slice A n c) := BY.cell 0
          have x1 : W.cell? ⟨w.heap.size, 1, none⟩ = some (.map (some gm)) := BY.cell 1
          have x2 : W.cell? ⟨w.heap.size, 2, none⟩ = some (.slice S q sc) := BY.cell 2
          refine bodyPost_ret (v := .tuple #[.agg #[.slice A n c, .map (some gm), .slice S q sc], .int .i64 0]) (by simp [results, Try.results59, go_sem, x0, x1, x2]) rfl ⟨HB', .inr ⟨HFE.out, gm, S, sc, by rw [HQ.out], hmp.mono (by omega), by omega, by rw [HQ.out, ← hws]; exact hsa⟩⟩
theorem tread_any (A F : Option Addr) (n c nf cf : Nat) (zs fr : List Int) (w : World) (hn : n ≤ maxLen) (hnc : n ≤ c) (ha : Arr .u64 w w.heap.size A n zs) (hnf : nf ≤ maxLen) (hfr : Arr .i64 w w.heap.size F nf fr) :
    Calls Try.prog 59 #[.slice A n c, .slice F nf cf] w (ReadH A n c zs fr w) := by
  by_cases h : arErr zs = 0
  · exact tread_good A F n c nf cf zs fr w hn hnc ha hnf hfr h
  · exact tread_bad A F n c nf cf zs fr w hn hnc ha h
end Go.Proofs.Ytjefbekdjgmmbaa
