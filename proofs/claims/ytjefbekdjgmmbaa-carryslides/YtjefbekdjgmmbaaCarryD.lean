/-
  Package carry: traverse.
-/
import Derived.Test.YtjefbekdjgmmbaaCarryW
namespace Go.Proofs.Ytjefbekdjgmmbaa
open Go.RowKit

/-- What holds while objects are visited: those that were come to, by their words, are 'l'. -/
structure TvI (O S : Value) (gT gp base : Nat) (zs l : List Int) (W : World) (ord : List Int) (v : Value) (wr : World) : Prop where
  tr : TrV O S gT gp base ord v wr
  fr : TrF gT gp base W wr
  all : AllIn zs ord
  nd : ord.Nodup
  at_ : ord.map (atI zs) = l
section
variable {O S v : Value} {gT gp base : Nat} {zs l ord : List Int} {W w w' : World} {y : Int}
theorem addN_nodup (h : ord.Nodup) : (addN ord y).Nodup := by
  unfold addN
  split
  · exact h
  · rename_i hc
    rw [List.nodup_append]
    refine ⟨h, by simp, fun a ha b hb e => ?_⟩
    rw [List.mem_singleton] at hb
    subst hb e
    exact hc (.inr ha)
theorem TvI.visit (h : TvI O S gT gp base zs l W ord v w) (hy : InR zs y) (hl : zs.length ≤ 256) :
    Calls Try.prog 86 #[.pointer (some ⟨gT, 0, none⟩), .int .i64 y] w fun e w' => e = .returned (.tuple #[]) ∧ ∃ ord' v', TvI O S gT gp base zs (addN l (atI zs y)) W ord' v' w' := by
  have h1 := h.all.len h.nd
  have h2 := begins_len (zs := zs) (a := 0)
  refine (visit_any O S v gT gp base zs ord y w h.tr hy (hy.wf hl) (by omega)).mono ?_
  rintro e w' ⟨rfl, v', h3, h4⟩
  exact ⟨rfl, _, v', h3, h.fr.trans h4, h.all.add hy, addN_nodup h.nd, by rw [at_add h.all hy, h.at_]⟩
theorem TvI.len (h : TvI O S gT gp base zs l W ord v w) : ord.length = l.length := by rw [← h.at_, List.length_map]
end
/-- What holds while the words of the objects are noted: 'k' of them, and 'j' numbers. -/
structure T1I (O : Value) (gT gp gn base : Nat) (zs : List Int) (w3 : World) (k j : Nat) (v : Value) (wr : World) : Prop where
  box : Box wr gT 102 #[O, v, .slice none 0 0, .map (some gp)]
  own : Own .i64 3 wr base v ((startsI zs).take k)
  plc : MapF Try.prog .i64 .i64 3 3 wr gp 1 (plF [])
  num : MapF Try.prog .i64 .i64 3 3 wr gn j (numTo zs j)
  below : Below w3.heap.size w3 wr
  o1 : w3.heap.size ≤ gp
  o2 : gp < gT
  o3 : gT < gn
  o4 : gn < base
  hb : base ≤ wr.heap.size
section
variable {O v v' : Value} {gT gp gn base : Nat} {zs : List Int} {w3 wr w8 w10 : World} {k j : Nat}
theorem T1I.off (h : T1I O gT gp gn base zs w3 k j v wr) {g : Nat} (hg : g < base) : v.ownBlock ≠ some g := fun e => by have := h.own.row _ e; omega
theorem T1I.alloc (h : T1I O gT gp gn base zs w3 k j v wr) {w' : World} (hb : Below wr.heap.size wr w') : T1I O gT gp gn base zs w3 k j v w' :=
  ⟨h.box.below hb h.box.lt, h.own.below hb, h.plc.below hb h.plc.lt, h.num.below hb h.num.lt, h.below.trans (hb.mono h.below.size), h.o1, h.o2, h.o3, h.o4, Nat.le_trans h.hb hb.size⟩
theorem T1I.next (h : T1I O gT gp gn base zs w3 k j v wr) (hO : Own .i64 3 w8 base v' ((startsI zs).take (k + 1))) (hG : Grew wr v w8 v') : T1I O gT gp gn base zs w3 (k + 1) j v' (w8.setCell ⟨gT, 1, none⟩ v') := by
  have o1 := h.o1
  have o2 := h.o2
  have o3 := h.o3
  have o4 := h.o4
  obtain ⟨b1, b2⟩ := h.box.grew hG (h.off (by omega))
  obtain ⟨m1, _⟩ := h.plc.grew hG (h.off (by omega))
  obtain ⟨n1, _⟩ := h.num.grew hG (h.off (by omega))
  exact ⟨b1.set 1 v', hO.setOff b2 _ _, m1.setOther (by omega) _ _, n1.setOther (by omega) _ _, below_set (h.below.trans (hG.below h.below.size (fun b e => by have := h.own.row _ e; omega))) (by omega) _ _, o1, o2, o3, o4, by rw [size_setCell]; exact Nat.le_trans h.hb hG.size⟩
theorem T1I.store (h : T1I O gT gp gn base zs w3 k j v wr) (hm : MapF Try.prog .i64 .i64 3 3 w10 gn (j + 1) (put (numTo zs j) (st zs j) j)) (hg : wr.grownBy w10 (some gn)) : T1I O gT gp gn base zs w3 k (j + 1) v w10 := by
  have o1 := h.o1
  have o2 := h.o2
  have o3 := h.o3
  have o4 := h.o4
  refine ⟨h.box.grown hg (by omega), h.own.keepB fun i a1 a2 => hg.block i a2 (by intro e; injection e with e; omega), h.plc.keep (hg.block gp h.plc.lt (by intro e; injection e with e; omega)), hm, h.below.trans (grown_below hg (by omega) h.below.size), o1, o2, o3, o4, Nat.le_trans h.hb hg.size⟩
end
/-- What traverse answers. -/
def TravP (zs fr : List Int) (w : World) (e : Ending) (w' : World) : Prop := Below w.heap.size w w' ∧
  ((fromE zs fr ≠ 0 ∧ e = .returned (.tuple #[.pointer none, .int .i64 (fromE zs fr)])) ∨
   (fromE zs fr = 0 ∧ ∃ (gT gp m oc sc n dc N : Nat) (OA S D : Option Addr) (raws : List Raw) (ord : List Int),
      e = .returned (.tuple #[.pointer (some ⟨gT, 0, none⟩), .int .i64 0]) ∧ w.heap.size ≤ gT ∧ Box w' gT 102 #[.slice OA m oc, .slice S m sc, .slice D n dc, .map (some gp)] ∧
      m = (begins zs 0).length ∧ ArrG rawC 4 w' w'.heap.size OA m raws ∧ (∀ j, j < m → ObV w' 0 w'.heap.size (nthG raws j) (obOf zs (st zs j))) ∧ Arr .i64 w' w'.heap.size S m (startsI zs) ∧ Arr .i64 w' w'.heap.size D n ord ∧
      MapF Try.prog .i64 .i64 3 3 w' gp N (plF ord) ∧ AllIn zs ord ∧ ord.map (atI zs) = camL zs fr))

set_option maxRecDepth 8000 in
set_option maxHeartbeats 1000000 in
theorem traverse_bad (A F : Option Addr) (n c nf cf : Nat) (zs fr : List Int) (w : World) (hn : n ≤ maxLen) (hnc : n ≤ c) (ha : Arr .u64 w w.heap.size A n zs) (hnf : nf ≤ maxLen) (hfr : Arr .i64 w w.heap.size F nf fr) (h0 : fromE zs fr ≠ 0) :
    Calls Try.prog 56 #[.slice A n c, .slice F nf cf] w (TravP zs fr w) := by
  have HR := Lib.hid (Reach_any A F n c nf cf zs fr w hn hnc ha hnf hfr)
  have HZ := Lib.hid h0
  have hbz : (fromE zs fr != 0) = true := by simpa using h0
  clear ha hfr h0 hn hnc hnf
  go_enter Try.func56, Try.ntmps56
  go_wp2_with fail
  refine HR.out.mono ?_
  rintro e w1 ⟨A', k, c', rfl, b1, _⟩
  have HB := Lib.hid b1
  clear b1 HR
  go_wp2
  go_ret2
  exact ⟨HB.out, .inl ⟨HZ.out, rfl⟩⟩

set_option maxRecDepth 8000 in
set_option maxHeartbeats 4000000 in
theorem traverse_good (A F : Option Addr) (n c nf cf : Nat) (zs fr : List Int) (w : World) (hn : n ≤ maxLen) (hnc : n ≤ c) (ha : Arr .u64 w w.heap.size A n zs) (hnf : nf ≤ maxLen) (hfr : Arr .i64 w w.heap.size F nf fr) (h0 : fromE zs fr = 0) :
    Calls Try.prog 56 #[.slice A n c, .slice F nf cf] w (TravP zs fr w) := by
  obtain ⟨hao, hfo⟩ := fromE_zero h0
  have h256 := arena_len hao
  have hsp := (arErr_zero hao).1
  have hL := spList_ok hsp
  obtain ⟨m, hm⟩ : ∃ m, (begins zs 0).length = m := ⟨_, rfl⟩
  have hbl := begins_len (zs := zs) (a := 0)
  have hLl : (spList zs).length = m := by rw [hL, List.length_map, hm]
  have hspot : ∀ k, k < m → nthG (spList zs) k = spOf zs (st zs k) ∧ st zs k < 256 := fun k hk => by
    have h1 := begins_mem (st_mem (zs := zs) (k := k) (by omega))
    exact ⟨by rw [hL, nthG_map _ _ _ (by omega)]; rfl, by omega⟩
  have HS := Lib.hid hspot
  have HM := Lib.hid hm
  have HZ0 := Lib.hid h0
  have HAO := Lib.hid hao
  have HFO := Lib.hid hfo
  have HWF := Lib.hid ha.2.1
  have HF := Lib.hid hfr
  have HR := Lib.hid (Reach_any A F n c nf cf zs fr w hn hnc ha hnf hfr)
  have HSP := Lib.hid (fun wx (hb : Below w.heap.size w wx) => Spots_any A n c zs wx hn (ha.later hb))
  have HOB := Lib.hid (fun wx (hb : Below w.heap.size w wx) => Objects_any A n c zs wx hn hnc (ha.later hb))
  have hm256 : m ≤ 256 := by omega
  unfold SpotsP at HSP
  rw [hLl] at HSP
  rw [hsp] at HSP
  unfold ObjectsP at HOB
  rw [hao] at HOB
  unfold ReachP at HR
  rw [h0] at HR
  have hmm := @run_makeMap Try.prog
  have h1wf : (Lit.int .i64 (-1)).wf = true := by decide
  clear ha hfr h0 hao hfo h256 hsp hL hm hbl hLl hspot hn hnc
  go_enter Try.func56, Try.ntmps56
  go_wp2_with fail
  refine HR.out.mono ?_
  rintro e w1 ⟨A', k', c', rfl, b1, _⟩
  have HB1 := Lib.hid b1
  have HS1 := Lib.hid (HSP.out w1 b1)
  clear b1 HR HSP
  go_wp2_with fail
  refine HS1.out.mono ?_
  rintro e w2 ⟨A2, c2, rfl, b2, _, hA2, _⟩
  have HB2 := Lib.hid (bthen HB1.out b2)
  have HO2 := Lib.hid (HOB.out w2 HB2.out)
  have HA2 := Lib.hid hA2
  clear b2 HS1 HOB hA2 HB1
  go_wp2_with fail
  refine HO2.out.mono ?_
  rintro e w3 ⟨OA, k3, oc, rfl, b3, _, hob⟩
  have HB3 := Lib.hid (bthen HB2.out b3)
  have HA3 := Lib.hid (HA2.out.below b3 (Nat.le_refl _))
  have HSZ := Lib.hid b3.size
  rcases hob with ⟨hob, _⟩ | ⟨_, hk3, raws, hraws, hobv⟩
  · exact absurd rfl hob
  rw [HM.out] at hk3
  have hk3 := hk3.symm
  subst hk3
  have HRW := Lib.hid hraws
  have HOV := Lib.hid hobv
  clear b3 HO2 hraws hobv HB2 HA2
  go_wp2_with (refine wpList_insert_map placesT _ rfl _ _ _ rfl rfl rfl rfl (MapF.made Try.prog .i64 .i64 3 3 w3) (by unfold maxLen; omega) h1wf h1wf ?_; intro w4 hm4 hg4)
  have hgp := hm4.lt
  have bm : Below w3.heap.size w3 w4 := ((Below.refl _ w3).alloc (Nat.le_refl _) _).trans (grown_below hg4 (Nat.le_refl _) (by simp))
  have HI : Hid (T1I (.slice OA m oc) w4.heap.size w3.heap.size (w4.heap.size + 1) (w4.heap.size + 2) zs w3 0 0 (.slice none 0 0) ((w4.alloc (.cells #[.slice OA m oc, .slice none 0 0, .slice none 0 0, .map (some w3.heap.size)] 102)).alloc (.map #[] 0))) := by
    have b5 := bm.alloc (Nat.le_of_lt hgp) (.cells #[.slice OA m oc, .slice none 0 0, .slice none 0 0, .map (some w3.heap.size)] 102)
    have hs5 : (w4.alloc (.cells #[.slice OA m oc, .slice none 0 0, .slice none 0 0, .map (some w3.heap.size)] 102)).heap.size = w4.heap.size + 1 := by simp
    have n5 := MapF.made Try.prog .i64 .i64 3 3 (w4.alloc (.cells #[.slice OA m oc, .slice none 0 0, .slice none 0 0, .map (some w3.heap.size)] 102))
    rw [hs5] at n5
    exact ⟨(Box.new w4 102 _).alloc _, Own.nil, (by rw [plF_nil]; exact (hm4.alloc _).alloc _), n5, b5.alloc (by rw [hs5]; omega) _, Nat.le_refl _, hgp, Nat.lt_succ_self _, Nat.lt_succ_self _, by simp⟩
  generalize ((w4.alloc (.cells #[.slice OA m oc, .slice none 0 0, .slice none 0 0, .map (some w3.heap.size)] 102)).alloc (.map #[] 0)) = W6 at *
  clear hmm hm4 hg4 bm
  obtain ⟨gT, hgT⟩ : ∃ gT, w4.heap.size = gT := ⟨_, rfl⟩
  obtain ⟨gp, hgp3⟩ : ∃ gp, w3.heap.size = gp := ⟨_, rfl⟩
  obtain ⟨gn, hgn⟩ : ∃ gn, gT + 1 = gn := ⟨_, rfl⟩
  have HGP := Lib.hid hgp3
  rw [hgT, hgp3] at HI
  rw [show gT + 2 = gn + 1 by omega, hgn] at HI
  rw [hgT, hgp3, hgn]
  clear hgT hgp3 hgn hgp
  go_loopw [53] (fun i wr => ∃ (k : Nat) (v : Value), k ≤ m ∧ i = .int .i64 k ∧ Hid (T1I (.slice OA m oc) gT gp gn (gn + 1) zs w3 k k v wr)) (fun i _ => m - (intOf i).toNat)
  case atStart => exact ⟨0, _, Nat.zero_le _, rfl, HI⟩
  case round =>
    obtain ⟨k, v, hk, rfl, hI⟩ := hrel
    clear HI
    by_cases hlt : k < m
    · obtain ⟨hs, hsn⟩ := HS.out k hlt
      have hkb : k < (begins zs 0).length := by rw [HM.out]; exact hlt
      obtain ⟨b, off, rfl, _, q0, q1, q2, q3, q4⟩ := (HA3.out.below hI.out.below HSZ.out).spot hlt
      rw [hs] at q0 q1 q2 q3 q4
      unfold spOf at q0 q1 q2 q3 q4
      simp only at q0 q1 q2 q3 q4
      have hwk : (Lit.int .i64 (k : Int)).wf = true := wf_i64.2 (by omega)
      have hws : (Lit.int .i64 (st zs k : Int)).wf = true := wf_i64.2 (by omega)
      have hst : (startsI zs).take (k + 1) = (startsI zs).take k ++ [(st zs k : Int)] := by
        rw [← nth_starts hkb, nth_get _ _ (by unfold startsI; simpa using hkb), List.take_succ_eq_append_getElem (by unfold startsI; simpa using hkb)]
      have hX := ((hI.out.alloc ((Below.refl _ wr).alloc (Nat.le_refl _) (.cells #[.int .i64 (st zs k), .int .i64 (vR (nth zs (st zs k))), .int .i64 (vB (nth zs (st zs k))), .int .i64 (vT (nth zs (st zs k))), .bool (vF (nth zs (st zs k)))] 80))).alloc (below_drewN (Below.refl _ _) 1))
      have bX : Box ((wr.alloc (.cells #[.int .i64 (st zs k), .int .i64 (vR (nth zs (st zs k))), .int .i64 (vB (nth zs (st zs k))), .int .i64 (vT (nth zs (st zs k))), .bool (vF (nth zs (st zs k)))] 80)).drewN 1) wr.heap.size 80 #[.int .i64 (st zs k), .int .i64 (vR (nth zs (st zs k))), .int .i64 (vB (nth zs (st zs k))), .int .i64 (vT (nth zs (st zs k))), .bool (vF (nth zs (st zs k)))] := Box.new wr 80 _
      have hwz : gn + 1 ≤ wr.heap.size := hI.out.hb
      have hrl := hI.out.own.rowLt
      clear hI hs
      obtain ⟨s, hse⟩ : ∃ s, st zs k = s := ⟨_, rfl⟩
      have HSE := Lib.hid hse
      rw [hse] at q0 q1 q2 q3 q4 hws hst hX bX hsn
      clear hse
      generalize vR (nth zs s) = R at *
      generalize vB (nth zs s) = Bd at *
      generalize vT (nth zs s) = T at *
      generalize vF (nth zs s) = Fr at *
      go_wp2_with fail
      clear q0 q1 q2 q3 q4
      obtain ⟨gx, hgx⟩ : ∃ gx, wr.heap.size = gx := ⟨_, rfl⟩
      rw [hgx] at bX hwz hrl
      rw [hgx]
      clear hgx
      refine wp_region_Y 11 (fun w' => w'.cell? ⟨gT, 1, none⟩ = some v ∧ w'.cell? ⟨gx, 0, none⟩ = some (.int .i64 s)) (by kernel_rfl) ?_
      change anyY _ _ _ _ _ _ _ _ _ ((wr.alloc (.cells #[.int .i64 s, .int .i64 R, .int .i64 Bd, .int .i64 T, .bool Fr] 80)).drewN 1)
      generalize ((wr.alloc (.cells #[.int .i64 s, .int .i64 R, .int .i64 Bd, .int .i64 T, .bool Fr] 80)).drewN 1) = W at *
      have o3 := hX.o3
      obtain ⟨v', w8, hrun, hO8, hG8⟩ := hX.own.pushG (P := Try.prog) (t := 23) (ty := 23) Try.underlying23 carryI64 (by omega) hws (by rw [List.length_take]; omega) hX.hb
      rw [← hst] at hO8
      have hN := hX.next hO8 hG8
      have hoff : v.ownBlock ≠ some gx := fun e => by have := hrl _ e; omega
      have hbT := (hX.box.grew hG8 (hX.off (by omega))).1
      obtain ⟨hbx8, _⟩ := bX.grew hG8 hoff
      have hS0 : W.cell? ⟨gT, 1, none⟩ = some v ∧ W.cell? ⟨gx, 0, none⟩ = some (.int .i64 s) := ⟨hX.box.cell 1, bX.cell 0⟩
      have hb1 := (Below.refl _ W).alloc (Nat.le_refl _) (.cells #[.int .i64 s] 3)
      have hS1 : (W.alloc (.cells #[.int .i64 s] 3)).cell? ⟨gT, 1, none⟩ = some v ∧ (W.alloc (.cells #[.int .i64 s] 3)).cell? ⟨gx, 0, none⟩ = some (.int .i64 s) :=
        ⟨(hb1.cell (p := ⟨gT, 1, none⟩) hX.box.lt).trans hS0.1, (hb1.cell (p := ⟨gx, 0, none⟩) bX.lt).trans hS0.2⟩
      have hS8 : w8.cell? ⟨gT, 1, none⟩ = some v ∧ w8.cell? ⟨gx, 0, none⟩ = some (.int .i64 s) := ⟨hbT.cell 1, hbx8.cell 0⟩
      have f8 := hbT.soft 1
      have hx9 : (w8.setCell ⟨gT, 1, none⟩ v').cell? ⟨gx, 0, none⟩ = some (.int .i64 s) := (cell_setOther _ (by omega) _ _ _).trans hS8.2
      have HN := Lib.hid hN
      have HR := Lib.hid hrun
      obtain ⟨A8, c8, rfl, _, _⟩ := hO8.arr
      obtain ⟨Av, cv, rfl, _, _⟩ := hX.own.arr
      clear hrun hO8 hG8 hN hoff hbT hbx8 hb1 hX bX
      generalize ((startsI zs).take k).length = L0 at *
      generalize ((startsI zs).take (k + 1)).length = L1 at *
      refine anyY_pure (i := 0) (v := .pointer (some ⟨gT, 0, none⟩)) rfl rfl rfl (by kernel_rfl) (by kernel_rfl) (by kernel_rfl) (fun _ _ _ h => h) (Or.inl ⟨by rfl, fun wx _ => ?_⟩) (.inr hS0) ?_
      · go_simp
      refine anyY_pure (i := 1) (v := .pointer (some ⟨gT, 0, none⟩)) rfl rfl rfl (by kernel_rfl) (by kernel_rfl) (by kernel_rfl) (fun _ _ _ h => h) (Or.inl ⟨by rfl, fun wx _ => ?_⟩) (.inr hS0) ?_
      · go_simp
      refine anyY_pure (i := 2) (v := .pointer (some ⟨gT, 0, none⟩)) rfl rfl rfl (by kernel_rfl) (by kernel_rfl) (by kernel_rfl) (fun _ _ _ h => h) (Or.inl ⟨by rfl, fun wx _ => ?_⟩) (.inr hS0) ?_
      · go_simp
      refine anyY_pure (i := 3) (v := .pointer (some ⟨gT, 1, none⟩)) rfl rfl rfl (by kernel_rfl) (by kernel_rfl) (by kernel_rfl) (fun _ _ _ h => h) (Or.inl ⟨by rfl, fun wx _ => ?_⟩) (.inr hS0) ?_
      · go_simp
      refine anyY_take (i := 4) (v := .slice Av L0 cv) rfl rfl (by kernel_rfl) rfl (by kernel_rfl) (by kernel_rfl) (by kernel_rfl) (by kernel_rfl) (fun _ _ _ h => h) (Or.inl ⟨by rfl, fun wx hS => ?_⟩) hS0 ?_
      · obtain ⟨p1, p2⟩ := hS
        go_simp
      refine anyY_pure (i := 5) (v := .pointer (some ⟨gx, 0, none⟩)) rfl rfl rfl (by kernel_rfl) (by kernel_rfl) (by kernel_rfl) (fun _ _ _ h => h) (Or.inl ⟨by rfl, fun wx _ => ?_⟩) (.inr hS0) ?_
      · go_simp
      refine anyY_take (i := 6) (v := .int .i64 s) rfl rfl (by kernel_rfl) rfl (by kernel_rfl) (by kernel_rfl) (by kernel_rfl) (by kernel_rfl) (fun _ _ _ h => h) (Or.inl ⟨by rfl, fun wx hS => ?_⟩) hS0 ?_
      · obtain ⟨p1, p2⟩ := hS
        go_simp
      refine anyY_only (i := 7) (by kernel_rfl) ?_
      refine wpOp_step rfl fun K' hK' => ?_
      go_simp
      refine hK' _ _ ⟨.inr (.inr hS1), ?_⟩
      clear hK'
      refine anyY_only (i := 8) (by kernel_rfl) ?_
      refine wpOp_step rfl fun K' hK' => ?_
      refine step_append_run rfl (.tmp 62) (.tmp 65) 23 rfl rfl rfl HR.out ?_
      refine hK' _ _ ⟨.inr (.inr hS8), ?_⟩
      clear hK'
      refine anyY_pure (i := 9) (v := .pointer (some ⟨gT, 0, none⟩)) rfl rfl rfl (by kernel_rfl) (by kernel_rfl) (by kernel_rfl) (fun _ _ _ h => h) (Or.inl ⟨by rfl, fun wx _ => ?_⟩) (.inr hS8) ?_
      · go_simp
      refine anyY_pure (i := 10) (v := .pointer (some ⟨gT, 1, none⟩)) rfl rfl rfl (by kernel_rfl) (by kernel_rfl) (by kernel_rfl) (fun _ _ _ h => h) (Or.inl ⟨by rfl, fun wx _ => ?_⟩) (.inr hS8) ?_
      · go_simp
      refine anyY_only (i := 11) (by kernel_rfl) ?_
      obtain ⟨e8, _⟩ := hS8
      refine wpOp_step rfl fun K' hK' => ?_
      go_simp
      refine hK' _ _ ⟨.inr (.inl rfl), anyY_done (by kernel_rfl) ?_ _⟩
      clear hK' hS0 hS1 e8 f8
      generalize (w8.setCell ⟨gT, 1, none⟩ (.slice A8 L1 c8)) = W9 at *
      go_wp2_with (refine wpList_store_map placesT _ rfl _ _ _ rfl rfl rfl rfl HN.out.num (by unfold maxLen; omega) hws hwk ?_; intro w10 hm10 hg10)
      have HN2 : Hid (T1I (.slice OA m oc) gT gp gn (gn + 1) zs w3 (k + 1) (k + 1) (.slice A8 L1 c8) w10) := HN.out.store (by rw [HSE.out]; exact hm10) hg10
      clear hm10 hg10
      go_roundw
      case rel => exact ⟨k + 1, _, by omega, by go_num, HN2⟩
      case measure => simp [intOf]; omega
    · obtain rfl : k = m := by omega
      have hkS : (startsI zs).take k = startsI zs := List.take_of_length_le (by unfold startsI; rw [List.length_map, HM.out]; exact Nat.le_refl _)
      have hown := hI.out.own
      rw [hkS] at hown
      obtain ⟨S, sc, hv, hsc, hS⟩ := hown.arr
      have hsl : (startsI zs).length = k := by unfold startsI; rw [List.length_map, HM.out]
      rw [hsl] at hv hsc hS
      have hhi : High (gn + 1) S k := by rw [hv] at hown; exact hown.high
      subst hv
      have HS0 := Lib.hid hS
      have HHI := Lib.hid hhi
      have HT1 := Lib.hid hI.out
      have o1 := hI.out.o1
      have o2 := hI.out.o2
      have o3 := hI.out.o3
      have o5 := hI.out.hb
      have HTV : Hid (TvI (.slice OA k oc) (.slice S k sc) gT gp wr.heap.size zs (addL [] (fr.take 0)) wr [] (.slice none 0 0) wr) :=
        ⟨⟨hI.out.box, Own.nil, hI.out.plc, by omega, by omega, by omega, Nat.le_refl _⟩, TrF.refl, AllIn.nil, List.nodup_nil, by rw [List.take_zero]; rfl⟩
      have HB4 := Lib.hid (HB3.out.trans (hI.out.below.mono HB3.out.size))
      have HW3 := Lib.hid hI.out.below
      have hmz : w3.heap.size ≤ gp := o1
      clear hI hown hkS hsl hS hhi HS HA3 HSZ
      go_wp2_with fail
      generalize wr = W0 at *
      go_loopw [76] (fun i wx => ∃ (q : Nat) (ord : List Int) (v : Value), q ≤ nf ∧ i = .int .i64 q ∧ Hid (TvI (.slice OA k oc) (.slice S k sc) gT gp W0.heap.size zs (addL [] (fr.take q)) W0 ord v wx)) (fun i _ => nf - (intOf i).toNat)
      case atStart => exact ⟨0, _, _, Nat.zero_le _, rfl, HTV⟩
      case round =>
        obtain ⟨q, ord, v, hq, rfl, hJ⟩ := hrel
        clear HTV
        have hwz : w.heap.size ≤ gp := Nat.le_trans HB3.out.size o1
        by_cases hlq : q < nf
        · have hbw : Below w.heap.size w wr := HB4.out.trans (hJ.out.fr.below (by omega) (by omega) (by omega))
          obtain ⟨bf, of, rfl, _, hcf⟩ := (HF.out.below hbw (Nat.le_refl _)).2.2 (by omega)
          have c1 := hcf q hlq
          have hqf : q < fr.length := by have := HF.out.1; omega
          have hxl := HFO.out (nth fr q) (nth_mem hqf)
          have hx2 := lives_lt hxl
          obtain ⟨j, hj1, hj2, hj3⟩ := numTo_live hxl
          rw [HM.out] at hj1
          have h256 := arena_len HAO.out
          have hwx : (Lit.int .i64 (nth fr q)).wf = true := wf_i64.2 (by omega)
          have hlk := (HT1.out.num.keep (hJ.out.fr.block gn (by omega) (by omega) (by omega))).look placesT hwx
          rw [hj1] at hlk
          simp only [Option.getD_some] at hlk
          have HV := Lib.hid (hJ.out.visit (y := (j : Int)) (.inr ⟨by omega, by omega⟩) h256)
          rw [atI_nat, hj3, ← addL_take hqf] at HV
          clear hcf hqf hxl hx2 hj1 hj2 hj3 hbw hJ
          generalize nth fr q = X at *
          have hnf2 := hnf
          unfold maxLen at hnf2
          go_wp2_with fail
          refine HV.out.mono ?_
          rintro e w7 ⟨rfl, ord', v', hN⟩
          have HN := Lib.hid hN
          clear hN HV hlk c1
          go_wp2
          go_roundw
          case rel => exact ⟨q + 1, _, _, by omega, by go_num, HN⟩
          case measure => simp [intOf]; omega
        · obtain rfl : q = nf := by omega
          have HT3 : Hid (TvI (.slice OA k oc) (.slice S k sc) gT gp W0.heap.size zs (camT zs fr 0) W0 ord v wr) := by
            have h1 := hJ.out
            rw [List.take_of_length_le (by have := HF.out.1; omega)] at h1
            exact h1
          clear hJ
          have h256 := arena_len HAO.out
          have HB0 := HB4.out
          go_wp2_with fail
          clear HF
          go_loopw [17] (fun i wx => ∃ (q : Nat) (ord : List Int) (v : Value), q ≤ ord.length ∧ i = .int .i64 q ∧ Hid (TvI (.slice OA k oc) (.slice S k sc) gT gp W0.heap.size zs (camT zs fr q) W0 ord v wx)) (fun i _ => 300 - (intOf i).toNat)
          case atStart => exact ⟨0, _, _, Nat.zero_le _, rfl, HT3⟩
          case round =>
            obtain ⟨q, ord, v, hq, rfl, hJ⟩ := hrel
            clear HT3
            have hom : ord.length ≤ k := by have := hJ.out.all.len hJ.out.nd; rw [HM.out] at this; exact this
            obtain ⟨D, dc, rfl, hdc, hD⟩ := hJ.out.tr.own.arr
            have q2 : wr.cell? ⟨gT, 2, none⟩ = some (.slice D ord.length dc) := hJ.out.tr.box.cell 2
            by_cases hlq : q < ord.length
            · have hb3 : Below w3.heap.size w3 wr := HW3.out.trans (hJ.out.fr.below (by omega) (by omega) (by omega))
              have c2' := hD.2.2 (by omega)
              obtain ⟨bd, od, rfl, _, hcd⟩ := c2'
              have c1 := hcd q hlq
              obtain ⟨j, hj, hjm⟩ := hJ.out.all.atIn hlq
              rw [HM.out] at hjm
              rw [hj] at c1
              obtain ⟨bo, oo, rfl, _, _, x1, _, _⟩ := (HRW.out.below hb3 (Nat.le_refl _)).raw hjm
              have hVj := HOV.out j hjm
              have q0 : wr.cell? ⟨gT, 0, none⟩ = some (.slice (some ⟨bo, oo, none⟩) k oc) := hJ.out.tr.box.cell 0
              have hql : q < (camT zs fr q).length := by rw [← hJ.out.len]; exact hlq
              have hnt : nth (camT zs fr q) q = (st zs j : Int) := by
                rw [← hJ.out.at_, nth_at hlq, hj, atI_nat]
              have hli : (st zs j : Int) ∈ livesI zs := by rw [← hnt]; exact camT_lives HWF.out HZ0.out q _ (nth_mem hql)
              obtain ⟨hr1, hr2⟩ := refs_at HWF.out HAO.out hli
              have hmore := camT_more hql
              rw [hnt] at hmore
              unfold nxOf at hmore
              rw [Int.toNat_natCast] at hmore
              obtain ⟨r, hr⟩ : ∃ r, nthG raws j = r := ⟨_, rfl⟩
              rw [hr] at hVj x1
              have hrefs : Arr .i64 w3 w3.heap.size r.ra r.rn (refsX zs (st zs j)) := hVj.refs
              have hRL := hrefs.1
              have HRE := Lib.hid hrefs
              have HR1 := Lib.hid hr1
              have HR2 := Lib.hid hr2
              have HMO := Lib.hid hmore
              have HRL := Lib.hid hRL
              have hR256 : r.rn ≤ 256 := by
                rw [← hRL]
                unfold refsX refWords
                simp only [List.length_map, List.length_take, List.length_drop]
                omega
              have HJ0 : Hid (TvI (.slice (some ⟨bo, oo, none⟩) k oc) (.slice S k sc) gT gp W0.heap.size zs (addL (camT zs fr q) ((named zs (st zs j)).take 0)) W0 ord (.slice (some ⟨bd, od, none⟩) ord.length dc) wr) := hJ.out
              have hq256 : q < 256 := by omega
              have hfr := hJ.out.fr
              have HLE : Hid (q + 1 ≤ (camT zs fr q).length) := hql
              clear hJ hb3 hcd hj hVj hr hrefs hRL hr1 hr2 hmore hnt hli hql hD
              generalize named zs (st zs j) = nm at *
              generalize refsX zs (st zs j) = refs at *
              obtain ⟨T, ra, rn, rc, ba, bn, bc, frr⟩ := r
              simp only at x1 HRE HRL hR256
              obtain ⟨n0, hn0⟩ : ∃ n0, ord.length = n0 := ⟨_, rfl⟩
              rw [hn0] at q2 hlq hom hq hdc
              clear hn0
              go_wp2_with fail
              clear c1 x1 q0 q2
              generalize wr = W1 at *
              go_loopw [107] (fun i wx => ∃ (t : Nat) (ord : List Int) (v : Value), t ≤ rn ∧ i = .int .i64 t ∧ Hid (TvI (.slice (some ⟨bo, oo, none⟩) k oc) (.slice S k sc) gT gp W0.heap.size zs (addL (camT zs fr q) (nm.take t)) W0 ord v wx)) (fun i _ => rn - (intOf i).toNat)
              case atStart => exact ⟨0, _, _, Nat.zero_le _, rfl, HJ0⟩
              case round =>
                obtain ⟨t, ord3, v3, ht, rfl, hJ⟩ := hrel
                clear HJ0
                by_cases hlt : t < rn
                · obtain ⟨bf, of, rfl, _, hcf⟩ := (HRE.out.below (HW3.out.trans (hJ.out.fr.below (by omega) (by omega) (by omega))) (Nat.le_refl _)).2.2 (by omega)
                  have c1 := hcf t hlt
                  have htr : t < refs.length := by have := HRL.out; omega
                  have htn : t < nm.length := by rw [← HR1.out, List.length_map]; exact htr
                  have hin := HR2.out (nth refs t) (nth_mem htr)
                  have hat : atI zs (nth refs t) = nth nm t := by rw [← HR1.out, nth_at htr]
                  have HV := Lib.hid (hJ.out.visit hin h256)
                  rw [hat, ← addL_take htn] at HV
                  clear hcf htr htn hin hat hJ
                  generalize nth refs t = X at *
                  go_wp2_with fail
                  refine HV.out.mono ?_
                  rintro e w7 ⟨rfl, ord', v', hN⟩
                  have HN := Lib.hid hN
                  clear hN HV c1
                  go_wp2
                  go_roundw
                  case rel => exact ⟨t + 1, _, _, by omega, by go_num, HN⟩
                  case measure => simp [intOf]; omega
                · obtain rfl : t = rn := by omega
                  have hlen : nm.length = t := by rw [← HR1.out, List.length_map]; exact HRL.out
                  have HT4 : Hid (TvI (.slice (some ⟨bo, oo, none⟩) k oc) (.slice S k sc) gT gp W0.heap.size zs (camT zs fr (q + 1)) W0 ord3 v3 wr) := by
                    have h1 := hJ.out
                    rw [List.take_of_length_le (by omega), ← HMO.out] at h1
                    exact h1
                  have hq1 : q + 1 ≤ ord3.length := by
                    rw [HT4.out.len, HMO.out]
                    exact Nat.le_trans HLE.out addL_len
                  clear hJ hlen
                  go_wp2
                  go_roundw
                  case rel => exact ⟨q + 1, ord3, v3, hq1, by go_num, HT4⟩
                  case measure => simp [intOf]; omega
            · obtain hqe : q = ord.length := by omega
              have hcl : (camT zs fr q).length = q := by rw [← hJ.out.len, hqe]
              have hz := begins_len (zs := zs) (a := 0)
              rw [HM.out] at hz
              have hcam := camL_at (zs := zs) (fr := fr) (i := q) (by omega) (by omega)
              have hb3 : Below w3.heap.size w3 wr := HW3.out.trans (hJ.out.fr.below (by omega) (by omega) (by omega))
              have HRES : Hid (Below w.heap.size w wr ∧ Box wr gT 102 #[.slice OA k oc, .slice S k sc, .slice D ord.length dc, .map (some gp)] ∧ ArrG rawC 4 wr wr.heap.size OA k raws ∧ (∀ j, j < k → ObV wr 0 wr.heap.size (nthG raws j) (obOf zs (st zs j))) ∧ Arr .i64 wr wr.heap.size S k (startsI zs) ∧ Arr .i64 wr wr.heap.size D ord.length ord ∧
                  MapF Try.prog .i64 .i64 3 3 wr gp (ord.length + 1) (plF ord) ∧ AllIn zs ord ∧ ord.map (atI zs) = camL zs fr) := by
                refine ⟨HB4.out.trans (hJ.out.fr.below (by omega) (by omega) (by omega)), hJ.out.tr.box, (HRW.out.below hb3 (Nat.le_refl _)).more hb3.size, fun j hj => (((HOV.out j hj).below hb3 (Nat.le_refl _)).more hb3.size).less (Nat.zero_le _), ?_, hD, hJ.out.tr.map, hJ.out.all, by rw [hcam]; exact hJ.out.at_⟩
                exact (HS0.out.trF HHI.out (by omega) (by omega) hJ.out.fr).more hJ.out.fr.size
              have HGT : Hid (w.heap.size ≤ gT) := Nat.le_trans hwz (by omega)
              clear hJ hqe hcl hz hcam hb3 hD
              go_wp2
              go_ret2
              obtain ⟨r1, r2, r3, r4, r5, r6, r7, r8, r9⟩ := HRES.out
              exact ⟨r1, .inr ⟨HZ0.out, _, _, _, _, _, _, _, _, _, _, _, raws, ord, rfl, HGT.out, r2, HM.out.symm, r3, r4, r5, r6, r7, r8, r9⟩⟩
end Go.Proofs.Ytjefbekdjgmmbaa
