/-
  Contract of the reference's FormOf.
-/
import Derived.Test.YtjefbekdjgmmbaaRefCame
import Derived.StillTailTactics
namespace Go.Proofs.Ytjefbekdjgmmbaa
open Go.RowKit

theorem OwnG.setBelow {α : Type} {enc : α → List Value} {size : Nat} {e : TypeId} {w : World} {base g : Nat} {v : Value} {l : List α} (h : OwnG enc size e w base v l) (hg : g < base) (j : Nat) (d : Value) : OwnG enc size e (w.setCell ⟨g, j, none⟩ d) base v l := by
  obtain ⟨hl, h2⟩ := h
  refine ⟨hl, h2.imp id ?_⟩
  rintro ⟨g', cap, cur, hv, hg', hh, r⟩
  refine ⟨g', cap, cur, hv, hg', ?_, r⟩
  show (w.heap.modify g _)[g']? = _
  rw [Array.getElem?_modify, if_neg (by omega)]
  exact hh
theorem Box.setOff {w : World} {g g' : Nat} {t : TypeId} {cs : Array Value} (h : Box w g t cs) (hg : g ≠ g') (j : Nat) (d : Value) : Box (w.setCell ⟨g', j, none⟩ d) g t cs := by
  show (w.heap.modify g' _)[g]? = _
  rw [Array.getElem?_modify, if_neg (by omega)]; exact h
/-- What holds while FormOf goes over the order. -/
structure FmI (zs ord : List Int) (w4 : World) (gf k : Nat) (v : Value) (raws : List Raw) (wr : World) : Prop where
  own : OwnG rawC 4 41 wr (gf + 1) v raws
  len : raws.length = k
  obs : ∀ j, j < k → ObV wr (gf + 1) wr.heap.size (nthG raws j) (obC zs ord (nth ord j)) ∧ Off v.ownBlock (nthG raws j).ra (nthG raws j).rn ∧ Off v.ownBlock (nthG raws j).ba (nthG raws j).bn
  below : Below gf w4 wr
  box : Box wr gf 26 #[v, .slice none 0 0]
  size : gf + 1 ≤ wr.heap.size
theorem FmI.step {zs ord : List Int} {w4 wr wx w9 : World} {gf k : Nat} {v v' : Value} {raws : List Raw} (h : FmI zs ord w4 gf k v raws wr) (hb : Below wr.heap.size wr wx) {r : Raw} (hr : ObV wx wr.heap.size wx.heap.size r (obC zs ord (nth ord k)))
    (hO : OwnG rawC 4 41 w9 (gf + 1) v' (raws ++ [r])) (hB : Below (gf + 1) wx w9) (hK : ∀ i, i < wx.heap.size → v.ownBlock ≠ some i → w9.heap[i]? = wx.heap[i]?) (hL : v'.ownBlock = v.ownBlock ∨ ∀ b, v'.ownBlock = some b → wx.heap.size ≤ b) :
    FmI zs ord w4 gf (k + 1) v' (raws ++ [r]) (w9.setCell ⟨gf, 0, none⟩ v') := by
  have hlen := h.len
  have hsz := h.size
  have hs9 : wx.heap.size ≤ w9.heap.size := hB.size
  have hbx := h.box.below hb (by omega)
  have hb9 : Box w9 gf 26 #[v, .slice none 0 0] := hbx.below hB (by omega)
  refine ⟨hO.setBelow (by omega) _ _, by simp [hlen], fun j hj => ?_, below_set ((h.below.trans (hb.mono (by omega))).trans (hB.mono (by omega))) (Nat.le_refl _) _ _, hb9.set 0 v', by have := hb.size; simp [World.setCell]; omega⟩
  have main : ∀ {q : Raw} {o : Ob}, ObV wx (gf + 1) wx.heap.size q o → Off v.ownBlock q.ra q.rn → Off v.ownBlock q.ba q.bn → ObV (w9.setCell ⟨gf, 0, none⟩ v') (gf + 1) (w9.setCell ⟨gf, 0, none⟩ v').heap.size q o ∧ Off v'.ownBlock q.ra q.rn ∧ Off v'.ownBlock q.ba q.bn := fun hV h1 h2 => by
    refine ⟨(((hV.keepOff h1 h2 hK).more hs9).setOther (by omega) 0 v').more (by simp [World.setCell]), ?_⟩
    rcases hL with hL | hL
    · rw [hL]; exact ⟨h1, h2⟩
    · exact ⟨hV.refs.off hL, hV.body.off hL⟩
  rcases Nat.lt_succ_iff_lt_or_eq.1 hj with hj | hj
  · rw [nthG_snoc_old _ _ (by omega)]
    obtain ⟨h1, h2, h3⟩ := h.obs j hj
    exact main ((h1.below hb (Nat.le_refl _)).more hb.size) h2 h3
  · subst hj
    rw [show nthG (raws ++ [r]) j = r by rw [← hlen]; exact nthG_snoc_new _ _]
    have hlt := h.own.rowLt
    exact main (hr.less (by omega)) (Off.of_high hr.rhigh hlt) (Off.of_high hr.bhigh hlt)

/-- What holds while the references of one object are gathered. -/
structure Fm3 (zs ord : List Int) (t : Nat) (W : World) (gb B3 R Bd : Nat) (T : Int) (k : Nat) (vr : Value) (wx : World) : Prop where
  hb : Box wx gb 44 #[.int .i64 R, .int .i64 Bd, .int .i64 T, .bool false]
  ob : Box wx (gb + 1) 41 #[.int .i64 T, vr, .slice none 0 0, .bool false]
  own : Own .i64 3 wx B3 vr (((named zs t).take k).map (plI ord))
  below : Below gb W wx
  b3 : gb + 2 ≤ B3
  b4 : B3 ≤ wx.heap.size
/-- What holds while the data words of one object are gathered. -/
structure Fm4 (zs : List Int) (t : Nat) (W : World) (gb B4 R Bd : Nat) (T : Int) (Ar : Option Addr) (nr cr : Nat) (refs : List Int) (k : Nat) (vb : Value) (wx : World) : Prop where
  hb : Box wx gb 44 #[.int .i64 R, .int .i64 Bd, .int .i64 T, .bool false]
  ob : Box wx (gb + 1) 41 #[.int .i64 T, .slice Ar nr cr, vb, .bool false]
  own : Own .u64 47 wx B4 vb ((bodyWords zs t).take k)
  arr : Arr .i64 wx B4 Ar nr refs
  high : High (gb + 2) Ar nr
  below : Below gb W wx
  b3 : gb + 2 ≤ B4
  b4 : B4 ≤ wx.heap.size
theorem Fm3.push {zs ord : List Int} {t : Nat} {W wx w8 : World} {gb B3 R Bd : Nat} {T : Int} {k : Nat} {vr v' : Value} (h : Fm3 zs ord t W gb B3 R Bd T k vr wx) (hb : Below B3 wx w8) (hO : Own .i64 3 w8 B3 v' (((named zs t).take (k + 1)).map (plI ord))) :
    Fm3 zs ord t W gb B3 R Bd T (k + 1) v' (w8.setCell ⟨gb + 1, 1, none⟩ v') := by
  have := h.b3
  have := h.b4
  exact ⟨(h.hb.below hb (by omega)).setOff (by omega) _ _, (h.ob.below hb (by omega)).set 1 v', hO.setOther (by omega) _ _, below_set (h.below.trans (hb.mono (by omega))) (by omega) _ _, h.b3, by have := hb.size; simp [World.setCell]; omega⟩
theorem Fm4.push {zs : List Int} {t : Nat} {W wx w8 : World} {gb B4 R Bd : Nat} {T : Int} {Ar : Option Addr} {nr cr : Nat} {refs : List Int} {k : Nat} {vb v' : Value} (h : Fm4 zs t W gb B4 R Bd T Ar nr cr refs k vb wx) (hb : Below B4 wx w8) (hO : Own .u64 47 w8 B4 v' ((bodyWords zs t).take (k + 1))) :
    Fm4 zs t W gb B4 R Bd T Ar nr cr refs (k + 1) v' (w8.setCell ⟨gb + 1, 2, none⟩ v') := by
  have := h.b3
  have := h.b4
  exact ⟨(h.hb.below hb (by omega)).setOff (by omega) _ _, (h.ob.below hb (by omega)).set 2 v', hO.setOther (by omega) _ _, (h.arr.below hb (Nat.le_refl _)).setOther h.high (by omega) _ _, h.high, below_set (h.below.trans (hb.mono (by omega))) (by omega) _ _, h.b3, by have := hb.size; simp [World.setCell]; omega⟩
/-- What holds while the places of what one begins with are gathered. -/
structure FmF (zs fr ord : List Int) (w4 : World) (gf B5 N c : Nat) (D : Option Addr) (raws : List Raw) (k : Nat) (u : Value) (wr : World) : Prop where
  own : Own .i64 3 wr B5 u ((fr.take k).map (plI ord))
  arr : ArrG rawC 4 wr B5 D N raws
  high : High (gf + 1) D N
  obs : ∀ j, j < N → ObV wr (gf + 1) B5 (nthG raws j) (obC zs ord (nth ord j))
  below : Below gf w4 wr
  box : Box wr gf 26 #[.slice D N c, u]
  size : gf + 1 ≤ B5
  b5 : B5 ≤ wr.heap.size
theorem FmF.push {zs fr ord : List Int} {w4 wr w8 : World} {gf B5 N c k : Nat} {D : Option Addr} {raws : List Raw} {u v' : Value} (h : FmF zs fr ord w4 gf B5 N c D raws k u wr) (hb : Below B5 wr w8) (hO : Own .i64 3 w8 B5 v' ((fr.take (k + 1)).map (plI ord))) :
    FmF zs fr ord w4 gf B5 N c D raws (k + 1) v' (w8.setCell ⟨gf, 1, none⟩ v') := by
  have := h.size
  have := h.b5
  exact ⟨hO.setOther (by omega) _ _, (h.arr.below hb (Nat.le_refl _)).setOther h.high (by omega) _ _, h.high, fun j hj => ((h.obs j hj).below hb (Nat.le_refl _)).setOther (by omega) _ _, below_set (h.below.trans (hb.mono (by omega))) (Nat.le_refl _) _ _, (h.box.below hb (by omega)).set 1 v', h.size, by have := hb.size; simp [World.setCell]; omega⟩
/-- What FormOf answers. -/
def FormP (zs fr : List Int) (w : World) (e : Ending) (w' : World) : Prop := ∃ D c raws F fc, e = .returned (.agg #[.slice D (camL zs fr).length c, .slice F fr.length fc]) ∧ (camL zs fr).length ≤ c ∧ Below w.heap.size w w' ∧
  ArrG rawC 4 w' w'.heap.size D (camL zs fr).length raws ∧ (∀ j, j < (camL zs fr).length → ObV w' w.heap.size w'.heap.size (nthG raws j) (obC zs (camL zs fr) (nth (camL zs fr) j))) ∧ fr.length ≤ fc ∧ Arr .i64 w' w'.heap.size F fr.length (fr.map (plI (camL zs fr)))

set_option maxRecDepth 8000 in
set_option maxHeartbeats 8000000 in
theorem formOf_any (A F : Option Addr) (n c nf cf : Nat) (zs fr : List Int) (w : World) (ha : Arr .u64 w w.heap.size A n zs) (hnf : nf * 8 ≤ 140737488351232) (hfr : Arr .i64 w w.heap.size F nf fr) (h0 : fromE zs fr = 0) :
    Calls Try.prog 14 #[.slice A n c, .slice F nf cf] w (FormP zs fr w) := by
  have HA0 := Lib.hid ha
  have HF0 := Lib.hid hfr
  have H0 := Lib.hid h0
  have HFL := Lib.hid hfr.1
  have HWF := Lib.hid ha.2.1
  have HAL := Lib.hid ha.1
  have hn256 : zs.length ≤ 256 := arena_len (fromE_zero h0).1
  have hal := ha.1
  obtain ⟨ord, hord⟩ : ∃ l, camL zs fr = l := ⟨_, rfl⟩
  have HOR := Lib.hid hord
  have HND : Hid ord.Nodup := by show ord.Nodup; rw [← hord]; exact camL_nd
  have HLV : Hid (∀ x ∈ ord, x ∈ livesI zs) := by show ∀ x ∈ ord, _; rw [← hord]; exact camL_lives ha.2.1 h0
  have hm256 : ord.length ≤ 256 := by rw [← hord]; exact camL_len ha.2.1 h0
  have b0 := (Below.refl _ w).alloc (Nat.le_refl _) (.cells #[.slice none 0 0, .slice none 0 0] 26)
  have HCM := Lib.hid (cameTo_any A F n c nf cf zs fr (w.alloc (.cells #[.slice none 0 0, .slice none 0 0] 26)) ((ha.below b0 (Nat.le_refl _)).more b0.size) (by unfold maxLen; omega) ((hfr.below b0 (Nat.le_refl _)).more b0.size) h0)
  have HX0 := Lib.hid (Box.new w 26 #[.slice none 0 0, .slice none 0 0])
  have HB0 := Lib.hid b0
  unfold FormP
  unfold CameP at HCM
  rw [hord] at HCM ⊢
  clear ha hfr h0 b0 hord
  go_enter Try.func14, Try.ntmps14
  go_wp2_with fail
  refine HCM.out.mono ?_
  rintro e w4 ⟨A1, c1, rfl, b4, hO1⟩
  have HX4 := Lib.hid (HX0.out.below b4 HX0.out.lt)
  have HB4 := Lib.hid (HB0.out.trans (b4.mono HB0.out.size))
  have hA1 : Arr .i64 w4 w4.heap.size A1 ord.length ord := by
    obtain ⟨A', c', hv, _, h1⟩ := hO1.arr
    injection hv with e1 e2 e3
    subst e1
    exact h1
  have HA1 := Lib.hid hA1
  have HGR : Hid (w.heap.size < w4.heap.size) := HX4.out.lt
  clear b4 hO1 hA1 HCM HX0 HB0
  obtain ⟨gf, hgf⟩ : ∃ g, w4.heap.size = g := ⟨_, rfl⟩
  have HGF := Lib.hid hgf
  have HI0 : Hid (FmI zs ord w4 gf 0 (.slice none 0 0) [] (w4.alloc (.cells #[.slice none 0 0, .slice none 0 0] 26))) :=
    ⟨OwnG.nil, rfl, fun j hj => absurd hj (by omega), (Below.refl _ _).alloc (by rw [hgf]; exact Nat.le_refl _) _, by rw [← hgf]; exact Box.new _ _ _, by rw [← hgf]; simp⟩
  rw [hgf] at HGR
  obtain ⟨m, hm⟩ : ∃ m, ord.length = m := ⟨_, rfl⟩
  have HM := Lib.hid hm
  rw [hm] at HA1 hm256 ⊢
  clear hm
  go_wp2_with fail
  clear hgf
  go_loopw [22] (fun i wr => ∃ (k : Nat) (v : Value) (raws : List Raw), k ≤ m ∧ i = .int .i64 k ∧ Hid (FmI zs ord w4 gf k v raws wr)) (fun i _ => m - (intOf i).toNat)
  case atStart => exact ⟨0, _, [], Nat.zero_le _, rfl, HI0⟩
  case round =>
    obtain ⟨j, v, raws, hj, rfl, HI⟩ := hrel
    clear HI0
    by_cases hlt : j < m
    · have hjo : j < ord.length := by have := HM.out; omega
      have hsz := HI.out.size
      have hb0 : Below w.heap.size w wr := HB4.out.trans (HI.out.below.mono (by rw [← HGF.out]; exact HB4.out.size))
      obtain ⟨b, off, rfl, _, hcs⟩ := (HA1.out.below HI.out.below (by rw [HGF.out]; exact Nat.le_refl _)).2.2 (by omega)
      have hc := hcs j hlt
      have hmem := HLV.out _ (nth_mem hjo)
      obtain ⟨t, ht⟩ := Int.eq_ofNat_of_zero_le (lives_lt hmem).1
      have hmem' := hmem
      rw [ht] at hmem'
      obtain ⟨s', hs', hfv, e0⟩ := lives_mem.1 hmem'
      obtain rfl : t = s' := by omega
      obtain ⟨R, Bd, hR, hBd, f1, f2, f3, f4, f5, f6, f7, f8⟩ := spot_facts (begins_mem hs').2.2 HWF.out (begins_mem hs').2.1
      have hrl := refWords_len (begins_mem hs').2.2
      have hbl := bodyWords_len (begins_mem hs').2.2
      rw [hR] at hrl
      rw [hBd] at hbl
      simp only [Int.toNat_natCast] at hrl hbl
      have HNL : Hid ((named zs t).length = R) := by show _ = _; unfold named; rw [List.length_map]; exact hrl
      have HBL := Lib.hid hbl
      have HBW : Hid (∀ k', k' < Bd → nth (bodyWords zs t) k' = nth zs (t + 1 + R + k')) := fun k' hk' => by
        rw [nth_get _ _ (by omega), nth_get _ _ (by omega)]
        unfold bodyWords
        simp [hR]
      have HHD := Lib.hid (headLive_any A n c t zs wr ((HA0.out.below hb0 (Nat.le_refl _)).more hb0.size) (fromE_zero H0.out).1 hmem')
      rw [hR, hBd] at HHD
      have HNM := Lib.hid (fun wx (hb : Below w.heap.size w wx) => namedAt_any A n c t zs wx ((HA0.out.below hb (Nat.le_refl _)).more hb.size) (fromE_zero H0.out).1 hmem')
      rw [HNL.out] at HNM
      have HOB : Hid (obC zs ord (nth ord j) = (vT (nth zs t), (named zs t).map (plI ord), bodyWords zs t, false)) := by show _ = _; rw [ht]; unfold obC; rw [Int.toNat_natCast]
      have HB0 := Lib.hid hb0
      rw [ht] at hc
      have hsb : t + 1 + R + Bd ≤ n := by omega
      clear hcs hmem hmem' ht hs' hfv e0 hR hBd f3 f4 f5 f6 f7 f8 hrl hbl hb0
      obtain ⟨T, hT⟩ : ∃ T, vT (nth zs t) = T := ⟨_, rfl⟩
      rw [hT] at HHD HOB
      clear hT
      generalize wr = W0 at *
      go_wp2_with fail
      refine HHD.out.mono ?_
      rintro e w5 ⟨rfl, b5⟩
      obtain ⟨gb, hgb⟩ : ∃ g, w5.heap.size = g := ⟨_, rfl⟩
      have n1 := (Box.new w5 44 #[.int .i64 R, .int .i64 Bd, .int .i64 T, .bool false]).alloc (.cells #[.int .i64 T, .slice none 0 0, .slice none 0 0, .bool false] 41)
      have n2 := Box.new (w5.alloc (.cells #[.int .i64 R, .int .i64 Bd, .int .i64 T, .bool false] 44)) 41 #[.int .i64 T, .slice none 0 0, .slice none 0 0, .bool false]
      rw [show (w5.alloc (.cells #[.int .i64 R, .int .i64 Bd, .int .i64 T, .bool false] 44)).heap.size = w5.heap.size + 1 by simp] at n2
      have bb := ((Below.refl _ w5).alloc (Nat.le_refl _) (.cells #[.int .i64 R, .int .i64 Bd, .int .i64 T, .bool false] 44)).alloc (by simp) (.cells #[.int .i64 T, .slice none 0 0, .slice none 0 0, .bool false] 41)
      have HN1 := Lib.hid n1
      have HN2 := Lib.hid n2
      have HBB := Lib.hid bb
      have HB5 := Lib.hid b5
      have hw5 := HB0.out.trans (b5.mono HB0.out.size)
      have HN := Lib.hid (HNM.out _ (hw5.trans (bb.mono hw5.size)))
      clear n1 n2 bb b5 HHD hc hw5 HNM
      go_wp2_with fail
      refine HN.out.mono ?_
      rintro e w6 ⟨A3, c3, rfl, b6, hA3, hH3⟩
      have hz : ((w5.alloc (.cells #[.int .i64 R, .int .i64 Bd, .int .i64 T, .bool false] 44)).alloc (.cells #[.int .i64 T, .slice none 0 0, .slice none 0 0, .bool false] 41)).heap.size = gb + 2 := by rw [← hgb]; simp
      rw [hz] at hH3 b6
      rw [hgb] at HN1 HN2 HBB
      have h3 : Fm3 zs ord t w5 gb w6.heap.size R Bd T 0 (.slice none 0 0) w6 :=
        ⟨HN1.out.below b6 (by omega), HN2.out.below b6 (by omega), by simp; exact Own.nil, HBB.out.trans (b6.mono (by omega)), by have := b6.size; rw [hz] at this; exact this, Nat.le_refl _⟩
      obtain ⟨B3, hB3⟩ : ∃ B, B = w6.heap.size := ⟨_, rfl⟩
      rw [← hB3] at h3 hA3
      have H3 := Lib.hid h3
      have HA3 := Lib.hid hA3
      have HH3 := Lib.hid hH3
      have HGB : Hid (w5.heap.size = gb) := hgb
      clear h3 hA3 hH3 b6 hz HN HN1 HN2 HBB hB3
      go_wp2_with fail
      clear hgb
      go_loopw [39] (fun i wx => ∃ (k' : Nat) (vr : Value), k' ≤ R ∧ i = .int .i64 k' ∧ Hid (Fm3 zs ord t w5 gb B3 R Bd T k' vr wx) ∧ Hid (Arr .i64 wx B3 A3 R (named zs t))) (fun i _ => R - (intOf i).toNat)
      case atStart => exact ⟨0, _, Nat.zero_le _, rfl, H3, HA3⟩
      case round =>
        obtain ⟨k', vr, hk', rfl, hJ, hNA⟩ := hrel
        clear H3 HA3
        have hbI : Below gf w4 wr := (HI.out.below.trans (HB5.out.mono (by omega))).trans (hJ.out.below.mono (by rw [← HGB.out]; exact Nat.le_trans (by omega) HB5.out.size))
        by_cases hlt' : k' < R
        · have hkn : k' < (named zs t).length := by rw [HNL.out]; exact hlt'
          obtain ⟨b6, o6, rfl, hb6, hcs⟩ := hNA.out.2.2 (by omega)
          have hc := hcs k' hlt'
          clear hcs
          have HPL : Hid (Calls Try.prog 46 #[.slice (some ⟨b, off, none⟩) m c1, .int .i64 (nth (named zs t) k')] (wr.drewN 1) fun e w' => e = .returned (.int .i64 (plI ord (nth (named zs t) k'))) ∧ wr.drewN 1 = w') :=
            (place_any (some ⟨b, off, none⟩) m c1 w4.heap.size (nth (named zs t) k') ord (wr.drewN 1) (by unfold maxLen; omega) ((HA1.out.below hbI (by rw [HGF.out]; exact Nat.le_refl _)).drewN 1)).mono fun e w' h => by
              obtain ⟨⟨r, rfl, hr⟩, h2⟩ := h
              exact ⟨by rw [place_one HND.out hr], h2⟩
          have hwv : (Lit.int .i64 (plI ord (nth (named zs t) k'))).wf = true := by
            by_cases hin : nth (named zs t) k' ∈ ord
            · obtain ⟨q, e, hq, _⟩ := plI_in hin
              rw [e]; exact wf_i64.2 (by have := HM.out; omega)
            · rw [plI_out hin]; decide
          have htk : ((named zs t).take (k' + 1)).map (plI ord) = ((named zs t).take k').map (plI ord) ++ [plI ord (nth (named zs t) k')] := by
            rw [nth_get _ _ hkn, List.take_succ_eq_append_getElem hkn, List.map_append]; rfl
          have l4 := hJ.out.b3
          have l5 := hJ.out.b4
          obtain ⟨v', w8, hrun, hO', hB'⟩ := (hJ.out.own.drewN 1).push (P := Try.prog) (t := 23) (ty := 23) Try.underlying23 intI_info (by omega) hwv (by rw [List.length_map, List.length_take]; omega) (show B3 ≤ (wr.drewN 1).heap.size from l5)
          rw [← htk] at hO'
          obtain ⟨A8, c8, rfl, _, _⟩ := hO'.arr
          have hB'' := below_of_drewN hB'
          have HN := Lib.hid (hJ.out.push hB'' hO')
          have HNN := Lib.hid ((hNA.out.below hB'' (Nat.le_refl _)).setOther HH3.out (g := gb + 1) (by omega) 1 (.slice A8 (((named zs t).take (k' + 1)).map (plI ord)).length c8))
          have o1 : wr.cell? ⟨gb + 1, 1, none⟩ = some vr := hJ.out.ob.cell 1
          have hb8 := hJ.out.ob.below hB'' (by omega)
          have x8 : w8.cell? ⟨gb + 1, 1, none⟩ = some vr := hb8.cell 1
          have y8 := hb8.soft 1
          have HR := Lib.hid hrun
          clear htk hrun hO' hB' hB'' hb8 hwv hb6 hkn hbI
          generalize (((named zs t).take (k' + 1)).map (plI ord)).length = L8 at *
          generalize plI ord (nth (named zs t) k') = V at *
          generalize nth (named zs t) k' = X at *
          go_wp2_with fail
          refine wp_region_Y 8 (fun w' => w'.cell? ⟨gb + 1, 1, none⟩ = some vr) (by kernel_rfl) ?_
          change anyY _ _ _ _ _ _ _ _ _ (wr.drewN 1)
          have hS0 : (wr.drewN 1).cell? ⟨gb + 1, 1, none⟩ = some vr := o1
          have hS1 : ((wr.drewN 1).alloc (.cells #[.int .i64 V] 3)).cell? ⟨gb + 1, 1, none⟩ = some vr := (((Below.refl _ (wr.drewN 1)).alloc (Nat.le_refl _) (.cells #[.int .i64 V] 3)).cell (p := ⟨gb + 1, 1, none⟩) (show gb + 1 < wr.heap.size by omega)).trans o1
          refine anyY_pure (i := 0) (v := .pointer (some ⟨gb + 1, 1, none⟩)) rfl rfl rfl (by kernel_rfl) (by kernel_rfl) (by kernel_rfl) (fun _ _ _ h => h) (Or.inl ⟨by rfl, fun wx _ => ?_⟩) (.inr hS0) ?_
          · go_simp
          refine anyY_take (i := 1) (v := vr) rfl rfl (by kernel_rfl) rfl (by kernel_rfl) (by kernel_rfl) (by kernel_rfl) (by kernel_rfl) (fun _ _ _ h => h) (Or.inl ⟨by rfl, fun wx hS => ?_⟩) hS0 ?_
          · have q0 := hS
            go_simp
          refine anyY_pure (i := 2) (v := .slice (some ⟨b, off, none⟩) m c1) rfl rfl rfl (by kernel_rfl) (by kernel_rfl) (by kernel_rfl) (fun _ _ _ h => h) (Or.inl ⟨by rfl, fun wx _ => ?_⟩) (.inr hS0) ?_
          · go_simp
          refine anyY_pure (i := 3) (v := .int .i64 X) rfl rfl rfl (by kernel_rfl) (by kernel_rfl) (by kernel_rfl) (fun _ _ _ h => h) (Or.inl ⟨by rfl, fun wx _ => ?_⟩) (.inr hS0) ?_
          · go_simp
          refine anyY_only (i := 4) (by kernel_rfl) ?_
          refine wpOp_step rfl fun K' hK' => ?_
          go_simp
          refine HPL.out.mono ?_
          rintro e w9 ⟨rfl, rfl⟩
          refine hK' _ _ ⟨.inr (.inr hS0), ?_⟩
          clear hK'
          refine anyY_only (i := 5) (by kernel_rfl) ?_
          refine wpOp_step rfl fun K' hK' => ?_
          go_simp
          refine hK' _ _ ⟨.inr (.inr hS1), ?_⟩
          clear hK'
          refine anyY_only (i := 6) (by kernel_rfl) ?_
          refine wpOp_step rfl fun K' hK' => ?_
          refine step_append_run rfl (.tmp 44) (.tmp 48) 23 rfl rfl rfl HR.out ?_
          refine hK' _ _ ⟨.inr (.inr x8), ?_⟩
          clear hK'
          refine anyY_pure (i := 7) (v := .pointer (some ⟨gb + 1, 1, none⟩)) rfl rfl rfl (by kernel_rfl) (by kernel_rfl) (by kernel_rfl) (fun _ _ _ h => h) (Or.inl ⟨by rfl, fun wx _ => ?_⟩) (.inr x8) ?_
          · go_simp
          refine anyY_only (i := 8) (by kernel_rfl) ?_
          refine wpOp_step rfl fun K' hK' => ?_
          go_simp
          refine hK' _ _ ⟨.inr (.inl rfl), anyY_done (by kernel_rfl) ?_ _⟩
          clear hK' hS0 hS1 o1 x8 y8
          go_wp2
          go_roundw
          case rel => exact ⟨k' + 1, _, by omega, by go_num, HN, HNN⟩
          case measure => simp [intOf]; omega
        · obtain rfl : k' = R := by omega
          have hO3 := hJ.out.own
          rw [List.take_of_length_le (by have := HNL.out; omega)] at hO3
          obtain ⟨Ar, cr, rfl, hcr, hAr⟩ := hO3.arr
          rw [show ((named zs t).map (plI ord)).length = k' by rw [List.length_map]; exact HNL.out] at hO3 hJ hcr hAr
          have h4 : Fm4 zs t w5 gb wr.heap.size k' Bd T Ar k' cr ((named zs t).map (plI ord)) 0 (.slice none 0 0) wr :=
            ⟨hJ.out.hb, hJ.out.ob, by simp; exact Own.nil, hAr, hO3.high.less hJ.out.b3, hJ.out.below, Nat.le_trans hJ.out.b3 hJ.out.b4, Nat.le_refl _⟩
          have p1 : wr.cell? ⟨gb, 1, none⟩ = some (.int .i64 Bd) := hJ.out.hb.cell 1
          obtain ⟨B4, hB4⟩ : ∃ B, B = wr.heap.size := ⟨_, rfl⟩
          rw [← hB4] at h4
          have H4 := Lib.hid h4
          clear h4 hB4 hAr hO3 hNA hJ hbI
          go_wp2_with fail
          clear p1
          generalize wr = W1 at *
          go_loopw [54] (fun i wx => ∃ (k9 : Nat) (vb : Value), k9 ≤ Bd ∧ i = .int .i64 k9 ∧ Hid (Fm4 zs t w5 gb B4 k' Bd T Ar k' cr ((named zs t).map (plI ord)) k9 vb wx)) (fun i _ => Bd - (intOf i).toNat)
          case atStart => exact ⟨0, _, Nat.zero_le _, rfl, H4⟩
          case round =>
            obtain ⟨k9, vb, hk9, rfl, hJ⟩ := hrel
            clear H4
            have l4 := hJ.out.b3
            have l5 := hJ.out.b4
            have hb0 : Below w.heap.size w wr := (HB0.out.trans (HB5.out.mono HB0.out.size)).trans (hJ.out.below.mono (by have := HB0.out.size; have := HB5.out.size; have := HGB.out; omega))
            by_cases hlt' : k9 < Bd
            · obtain ⟨b6, o6, rfl, hb6, hcs⟩ := (HA0.out.below hb0 (Nat.le_refl _)).2.2 (by omega)
              have hc : wr.cell? ⟨b6, o6 + (t + 1 + k' + k9), none⟩ = some (.int .u64 (nth zs (t + 1 + k' + k9))) := hcs (t + 1 + k' + k9) (by omega)
              clear hcs
              have hbw : nth (bodyWords zs t) k9 = nth zs (t + 1 + k' + k9) := HBW.out k9 hlt'
              have hwf := HWF.out (nth zs (t + 1 + k' + k9)) (nth_mem (by have := HAL.out; omega))
              rw [← hbw] at hc hwf
              have htk : (bodyWords zs t).take (k9 + 1) = (bodyWords zs t).take k9 ++ [nth (bodyWords zs t) k9] := by
                rw [nth_get _ _ (by have := HBL.out; omega), List.take_succ_eq_append_getElem]
              obtain ⟨v', w8, hrun, hO', hB'⟩ := (hJ.out.own.drewN 1).push (P := Try.prog) (t := 22) (ty := 22) Try.underlying22 u64_info (by omega) hwf (by rw [List.length_take]; omega) (show B4 ≤ (wr.drewN 1).heap.size from l5)
              rw [← htk] at hO'
              obtain ⟨A8, c8, rfl, _, _⟩ := hO'.arr
              have hB'' := below_of_drewN hB'
              have HN := Lib.hid (hJ.out.push hB'' hO')
              have o2 : wr.cell? ⟨gb + 1, 2, none⟩ = some vb := hJ.out.ob.cell 2
              have p0 : wr.cell? ⟨gb, 0, none⟩ = some (.int .i64 k') := hJ.out.hb.cell 0
              have hb8 := hJ.out.ob.below hB'' (by omega)
              have x8 : w8.cell? ⟨gb + 1, 2, none⟩ = some vb := hb8.cell 2
              have y8 := hb8.soft 2
              have S8 : Hid (w8.cell? ⟨gb, 0, none⟩ = some (.int .i64 k')) := (hJ.out.hb.below hB'' (by omega)).cell 0
              have hb6w : b6 < gb := by have := HB0.out.size; have := HB5.out.size; have := HGB.out; omega
              have C8 : Hid (w8.cell? ⟨b6, o6 + (t + 1 + k' + k9), none⟩ = some (.int .u64 (nth (bodyWords zs t) k9))) := (hB''.cell (p := ⟨b6, o6 + (t + 1 + k' + k9), none⟩) (show b6 < B4 by omega)).trans hc
              have ha8 := (Below.refl _ (wr.drewN 1)).alloc (Nat.le_refl _) (.cells #[.int .u64 (nth (bodyWords zs t) k9)] 47)
              have HR := Lib.hid hrun
              clear htk hrun hO' hB' hB'' hb8 hwf hb6 hbw hb0
              generalize ((bodyWords zs t).take (k9 + 1)).length = L8 at *
              generalize nth (bodyWords zs t) k9 = X at *
              have g1 : IntKind.i64.wrap ((t : Int) + 1) = t + 1 := IntWalk.i64_in _ (by omega)
              have g2 : IntKind.i64.wrap ((t : Int) + 1 + k') = t + 1 + k' := IntWalk.i64_in _ (by omega)
              have g3 : IntKind.i64.wrap ((t : Int) + 1 + k' + k9) = t + 1 + k' + k9 := IntWalk.i64_in _ (by omega)
              have g4 : (0 : Int) ≤ (t : Int) + 1 + k' + k9 := by omega
              have g5 : (t : Int) + 1 + k' + k9 < n := by omega
              have g6 : ((t : Int) + 1 + k' + k9).toNat = t + 1 + k' + k9 := by omega
              go_wp2_with fail
              refine wp_region_Y 15 (fun w' => w'.cell? ⟨gb + 1, 2, none⟩ = some vb ∧ w'.cell? ⟨gb, 0, none⟩ = some (.int .i64 k') ∧ w'.cell? ⟨b6, o6 + (t + 1 + k' + k9), none⟩ = some (.int .u64 X)) (by kernel_rfl) ?_
              change anyY _ _ _ _ _ _ _ _ _ (wr.drewN 1)
              have hS0 : (wr.drewN 1).cell? ⟨gb + 1, 2, none⟩ = some vb ∧ (wr.drewN 1).cell? ⟨gb, 0, none⟩ = some (.int .i64 k') ∧ (wr.drewN 1).cell? ⟨b6, o6 + (t + 1 + k' + k9), none⟩ = some (.int .u64 X) := ⟨o2, p0, hc⟩
              have hS1 : ((wr.drewN 1).alloc (.cells #[.int .u64 X] 47)).cell? ⟨gb + 1, 2, none⟩ = some vb ∧ ((wr.drewN 1).alloc (.cells #[.int .u64 X] 47)).cell? ⟨gb, 0, none⟩ = some (.int .i64 k') ∧ ((wr.drewN 1).alloc (.cells #[.int .u64 X] 47)).cell? ⟨b6, o6 + (t + 1 + k' + k9), none⟩ = some (.int .u64 X) := ⟨(ha8.cell (p := ⟨gb + 1, 2, none⟩) (show gb + 1 < wr.heap.size by omega)).trans o2, (ha8.cell (p := ⟨gb, 0, none⟩) (show gb < wr.heap.size by omega)).trans p0, (ha8.cell (p := ⟨b6, o6 + (t + 1 + k' + k9), none⟩) (show b6 < wr.heap.size by omega)).trans hc⟩
              have hS2 : w8.cell? ⟨gb + 1, 2, none⟩ = some vb ∧ w8.cell? ⟨gb, 0, none⟩ = some (.int .i64 k') ∧ w8.cell? ⟨b6, o6 + (t + 1 + k' + k9), none⟩ = some (.int .u64 X) := ⟨x8, S8.out, C8.out⟩
              refine anyY_pure (i := 0) (v := .pointer (some ⟨gb + 1, 2, none⟩)) rfl rfl rfl (by kernel_rfl) (by kernel_rfl) (by kernel_rfl) (fun _ _ _ h => h) (Or.inl ⟨by rfl, fun wx _ => ?_⟩) (.inr hS0) ?_
              · go_simp
              refine anyY_take (i := 1) (v := vb) rfl rfl (by kernel_rfl) rfl (by kernel_rfl) (by kernel_rfl) (by kernel_rfl) (by kernel_rfl) (fun _ _ _ h => h) (Or.inl ⟨by rfl, fun wx hS => ?_⟩) hS0 ?_
              · obtain ⟨q0, q1, q2⟩ := hS
                go_simp
              refine anyY_pure (i := 2) (v := .slice (some ⟨b6, o6, none⟩) n c) rfl rfl rfl (by kernel_rfl) (by kernel_rfl) (by kernel_rfl) (fun _ _ _ h => h) (Or.inl ⟨by rfl, fun wx _ => ?_⟩) (.inr hS0) ?_
              · go_simp
              refine anyY_pure (i := 3) (v := .int .i64 t) rfl rfl rfl (by kernel_rfl) (by kernel_rfl) (by kernel_rfl) (fun _ _ _ h => h) (Or.inl ⟨by rfl, fun wx _ => ?_⟩) (.inr hS0) ?_
              · go_simp
              refine anyY_pure (i := 4) (v := .int .i64 ((t : Int) + 1)) rfl rfl rfl (by kernel_rfl) (by kernel_rfl) (by kernel_rfl) (fun _ _ _ h => h) (Or.inl ⟨by rfl, fun wx _ => ?_⟩) (.inr hS0) ?_
              · go_simp
              refine anyY_pure (i := 5) (v := .pointer (some ⟨gb, 0, none⟩)) rfl rfl rfl (by kernel_rfl) (by kernel_rfl) (by kernel_rfl) (fun _ _ _ h => h) (Or.inl ⟨by rfl, fun wx _ => ?_⟩) (.inr hS0) ?_
              · go_simp
              refine anyY_take (i := 6) (v := .int .i64 k') rfl rfl (by kernel_rfl) rfl (by kernel_rfl) (by kernel_rfl) (by kernel_rfl) (by kernel_rfl) (fun _ _ _ h => h) (Or.inl ⟨by rfl, fun wx hS => ?_⟩) hS0 ?_
              · obtain ⟨q0, q1, q2⟩ := hS
                go_simp
              refine anyY_pure (i := 7) (v := .int .i64 ((t : Int) + 1 + k')) rfl rfl rfl (by kernel_rfl) (by kernel_rfl) (by kernel_rfl) (fun _ _ _ h => h) (Or.inl ⟨by rfl, fun wx _ => ?_⟩) (.inr hS0) ?_
              · go_simp
              refine anyY_pure (i := 8) (v := .int .i64 k9) rfl rfl rfl (by kernel_rfl) (by kernel_rfl) (by kernel_rfl) (fun _ _ _ h => h) (Or.inl ⟨by rfl, fun wx _ => ?_⟩) (.inr hS0) ?_
              · go_simp
              refine anyY_pure (i := 9) (v := .int .i64 ((t : Int) + 1 + k' + k9)) rfl rfl rfl (by kernel_rfl) (by kernel_rfl) (by kernel_rfl) (fun _ _ _ h => h) (Or.inl ⟨by rfl, fun wx _ => ?_⟩) (.inr hS0) ?_
              · go_simp
              refine anyY_pure (i := 10) (v := .pointer (some ⟨b6, o6 + (t + 1 + k' + k9), none⟩)) rfl rfl rfl (by kernel_rfl) (by kernel_rfl) (by kernel_rfl) (fun _ _ _ h => h) (Or.inl ⟨by rfl, fun wx _ => ?_⟩) (.inr hS0) ?_
              · go_simp
              refine anyY_take (i := 11) (v := .int .u64 X) rfl rfl (by kernel_rfl) rfl (by kernel_rfl) (by kernel_rfl) (by kernel_rfl) (by kernel_rfl) (fun _ _ _ h => h) (Or.inl ⟨by rfl, fun wx hS => ?_⟩) hS0 ?_
              · obtain ⟨q0, q1, q2⟩ := hS
                go_simp
              refine anyY_only (i := 12) (by kernel_rfl) ?_
              refine wpOp_step rfl fun K' hK' => ?_
              go_simp
              refine hK' _ _ ⟨.inr (.inr hS1), ?_⟩
              clear hK'
              refine anyY_only (i := 13) (by kernel_rfl) ?_
              refine wpOp_step rfl fun K' hK' => ?_
              refine step_append_run rfl (.tmp 58) (.tmp 69) 22 rfl rfl rfl HR.out ?_
              refine hK' _ _ ⟨.inr (.inr hS2), ?_⟩
              clear hK'
              refine anyY_pure (i := 14) (v := .pointer (some ⟨gb + 1, 2, none⟩)) rfl rfl rfl (by kernel_rfl) (by kernel_rfl) (by kernel_rfl) (fun _ _ _ h => h) (Or.inl ⟨by rfl, fun wx _ => ?_⟩) (.inr hS2) ?_
              · go_simp
              refine anyY_only (i := 15) (by kernel_rfl) ?_
              refine wpOp_step rfl fun K' hK' => ?_
              go_simp
              refine hK' _ _ ⟨.inr (.inl rfl), anyY_done (by kernel_rfl) ?_ _⟩
              clear hK' hS0 hS1 hS2 o2 p0 hc x8 y8 ha8
              go_wp2
              go_roundw
              case rel => exact ⟨k9 + 1, _, by omega, by go_num, HN⟩
              case measure => simp [intOf]; omega
            · obtain rfl : k9 = Bd := by omega
              have hO4 := hJ.out.own
              rw [List.take_of_length_le (by have := HBL.out; omega)] at hO4
              obtain ⟨A9, c9, rfl, hc9, hA9⟩ := hO4.arr
              rw [HBL.out] at hA9 hc9 hO4 hJ
              have hwj : Below W0.heap.size W0 wr := HB5.out.trans (hJ.out.below.mono (by rw [← HGB.out]; exact HB5.out.size))
              have hVr : ObV wr W0.heap.size wr.heap.size ⟨T, Ar, k', cr, A9, k9, c9, false⟩ (obC zs ord (nth ord j)) := by
                rw [HOB.out]
                have hgbs : W0.heap.size ≤ gb := by rw [← HGB.out]; exact HB5.out.size
                exact ⟨rfl, rfl, hcr, hc9, hJ.out.arr.more hJ.out.b4, hJ.out.high.less (by omega), hA9, hO4.high.less (by omega)⟩
              have hI9 := HI.out.own.below hwj
              obtain ⟨v', w9, hrun, hO', hB', hK', hLoc⟩ := (hI9 : OwnG rawC 4 41 wr (gf + 1) v raws).pushK (P := Try.prog) (t := 24) (ty := 24) rawC_len rawC_one (by omega) Try.underlying24 raw_info rfl (by omega) ⟨T, Ar, k', cr, A9, k9, c9, false⟩ (by have := HI.out.len; omega) (Nat.le_trans HI.out.size hwj.size)
              obtain ⟨A8, c8, rfl, _, _⟩ := hO'.arr rawC_len
              have hN := HI.out.step hwj hVr hO' hB' hK' hLoc
              simp only [List.length_append, List.length_singleton] at hN
              have HN := Lib.hid hN
              have HR := Lib.hid hrun
              have m0 : wr.cell? ⟨gb + 1, 0, none⟩ = some (.int .i64 T) := hJ.out.ob.cell 0
              have m1 : wr.cell? ⟨gb + 1, 1, none⟩ = some (.slice Ar k' cr) := hJ.out.ob.cell 1
              have m2 : wr.cell? ⟨gb + 1, 2, none⟩ = some (.slice A9 k9 c9) := hJ.out.ob.cell 2
              have m3 : wr.cell? ⟨gb + 1, 3, none⟩ = some (.bool false) := hJ.out.ob.cell 3
              have hbf := HI.out.box.below hwj HI.out.box.lt
              have x0 : wr.cell? ⟨gf, 0, none⟩ = some v := hbf.cell 0
              have hbf9 := hbf.below hB' (by omega)
              have x9 : w9.cell? ⟨gf, 0, none⟩ = some v := hbf9.cell 0
              have y9 := hbf9.soft 0
              clear hO4 hA9 hVr hrun hO' hB' hK' hLoc hJ l4 hI9 hwj hbf hbf9 hb0 hN
              go_wp2_with (at_builtin; refine wpList_append_run rfl (.tmp 74) (.tmp 76) 24 rfl rfl rfl HR.out ?_)
              go_roundw
              case rel => exact ⟨j + 1, _, _, by omega, by go_num, HN⟩
              case measure => simp [intOf]; omega
    · obtain rfl : j = m := by omega
      obtain ⟨D, cD, rfl, hcD, hD⟩ := HI.out.own.arr rawC_len
      have hrl := HI.out.len
      rw [hrl] at hcD hD HI
      have HB5 : Hid (FmF zs fr ord w4 gf wr.heap.size j cD D raws 0 (.slice none 0 0) wr) :=
        ⟨by simp; exact Own.nil, hD, HI.out.own.high, fun q hq => (HI.out.obs q hq).1, HI.out.below, HI.out.box, HI.out.size, Nat.le_refl _⟩
      obtain ⟨B5, hB5⟩ : ∃ B, wr.heap.size = B := ⟨_, rfl⟩
      rw [hB5] at HB5
      clear hD HI hlt hB5 hrl
      go_wp2_with fail
      generalize wr = W0 at *
      go_loopw [82] (fun i wx => ∃ (k : Nat) (u : Value), k ≤ nf ∧ i = .int .i64 k ∧ Hid (FmF zs fr ord w4 gf B5 j cD D raws k u wx)) (fun i _ => nf - (intOf i).toNat)
      case atStart => exact ⟨0, _, Nat.zero_le _, rfl, HB5⟩
      case round =>
        obtain ⟨q, u, hq, rfl, HJ⟩ := hrel
        clear HB5
        have hsz := HJ.out.size
        have hb5 := HJ.out.b5
        have hb0 : Below w.heap.size w wr := HB4.out.trans (HJ.out.below.mono (by rw [← HGF.out]; exact HB4.out.size))
        by_cases hlq : q < nf
        · have hqf : q < fr.length := by have := HFL.out; omega
          obtain ⟨b6, o6, rfl, hb6, hcs⟩ := (HF0.out.below hb0 (Nat.le_refl _)).2.2 (by omega)
          have hc := hcs q hlq
          clear hcs
          have HPL : Hid (Calls Try.prog 46 #[.slice A1 j c1, .int .i64 (nth fr q)] (wr.drewN 1) fun e w' => e = .returned (.int .i64 (plI ord (nth fr q))) ∧ wr.drewN 1 = w') :=
            (place_any A1 j c1 w4.heap.size (nth fr q) ord (wr.drewN 1) (by unfold maxLen; omega) ((HA1.out.below HJ.out.below (by rw [HGF.out]; exact Nat.le_refl _)).drewN 1)).mono fun e w' h => by
              obtain ⟨⟨r, rfl, hr⟩, h2⟩ := h
              exact ⟨by rw [place_one HND.out hr], h2⟩
          have hwv : (Lit.int .i64 (plI ord (nth fr q))).wf = true := by
            by_cases hin : nth fr q ∈ ord
            · obtain ⟨p, e, hp, _⟩ := plI_in hin
              rw [e]; exact wf_i64.2 (by have := HM.out; omega)
            · rw [plI_out hin]; decide
          have htk : (fr.take (q + 1)).map (plI ord) = (fr.take q).map (plI ord) ++ [plI ord (nth fr q)] := by
            rw [nth_get _ _ hqf, List.take_succ_eq_append_getElem hqf, List.map_append]; rfl
          obtain ⟨v', w8, hrun, hO', hB'⟩ := (HJ.out.own.drewN 1).pushB (P := Try.prog) (t := 23) (ty := 23) Try.underlying23 intI_info hwv (by rw [List.length_map, List.length_take]; omega) (show B5 ≤ (wr.drewN 1).heap.size from hb5)
          rw [← htk] at hO'
          obtain ⟨A8, c8, rfl, _, _⟩ := hO'.arr
          have hB'' := below_of_drewN hB'
          have HN := Lib.hid (HJ.out.push hB'' hO')
          have o1 : wr.cell? ⟨gf, 1, none⟩ = some u := HJ.out.box.cell 1
          have hb8 := HJ.out.box.below hB'' (by omega)
          have x8 : w8.cell? ⟨gf, 1, none⟩ = some u := hb8.cell 1
          have y8 := hb8.soft 1
          have HR := Lib.hid hrun
          clear htk hrun hO' hB' hB'' hb8 hwv hb6 hqf hb0 HJ
          generalize ((fr.take (q + 1)).map (plI ord)).length = L8 at *
          generalize plI ord (nth fr q) = V at *
          generalize nth fr q = X at *
          obtain ⟨k, hk⟩ : ∃ k, j = k := ⟨_, rfl⟩
          subst hk
          go_wp2_with fail
          refine wp_region_Y 8 (fun w' => w'.cell? ⟨gf, 1, none⟩ = some u) (by kernel_rfl) ?_
          change anyY _ _ _ _ _ _ _ _ _ (wr.drewN 1)
          have hS0 : (wr.drewN 1).cell? ⟨gf, 1, none⟩ = some u := o1
          have hS1 : ((wr.drewN 1).alloc (.cells #[.int .i64 V] 3)).cell? ⟨gf, 1, none⟩ = some u := (((Below.refl _ (wr.drewN 1)).alloc (Nat.le_refl _) (.cells #[.int .i64 V] 3)).cell (p := ⟨gf, 1, none⟩) (show gf < wr.heap.size by omega)).trans o1
          refine anyY_pure (i := 0) (v := .pointer (some ⟨gf, 1, none⟩)) rfl rfl rfl (by kernel_rfl) (by kernel_rfl) (by kernel_rfl) (fun _ _ _ h => h) (Or.inl ⟨by rfl, fun wx _ => ?_⟩) (.inr hS0) ?_
          · go_simp
          refine anyY_take (i := 1) (v := u) rfl rfl (by kernel_rfl) rfl (by kernel_rfl) (by kernel_rfl) (by kernel_rfl) (by kernel_rfl) (fun _ _ _ h => h) (Or.inl ⟨by rfl, fun wx hS => ?_⟩) hS0 ?_
          · have q0 := hS
            go_simp
          refine anyY_pure (i := 2) (v := .slice A1 j c1) rfl rfl rfl (by kernel_rfl) (by kernel_rfl) (by kernel_rfl) (fun _ _ _ h => h) (Or.inl ⟨by rfl, fun wx _ => ?_⟩) (.inr hS0) ?_
          · go_simp
          refine anyY_pure (i := 3) (v := .int .i64 X) rfl rfl rfl (by kernel_rfl) (by kernel_rfl) (by kernel_rfl) (fun _ _ _ h => h) (Or.inl ⟨by rfl, fun wx _ => ?_⟩) (.inr hS0) ?_
          · go_simp
          refine anyY_only (i := 4) (by kernel_rfl) ?_
          refine wpOp_step rfl fun K' hK' => ?_
          go_simp
          refine HPL.out.mono ?_
          rintro e w9 ⟨rfl, rfl⟩
          refine hK' _ _ ⟨.inr (.inr hS0), ?_⟩
          clear hK'
          refine anyY_only (i := 5) (by kernel_rfl) ?_
          refine wpOp_step rfl fun K' hK' => ?_
          go_simp
          refine hK' _ _ ⟨.inr (.inr hS1), ?_⟩
          clear hK'
          refine anyY_only (i := 6) (by kernel_rfl) ?_
          refine wpOp_step rfl fun K' hK' => ?_
          refine step_append_run rfl (.tmp 87) (.tmp 91) 23 rfl rfl rfl HR.out ?_
          refine hK' _ _ ⟨.inr (.inr x8), ?_⟩
          clear hK'
          refine anyY_pure (i := 7) (v := .pointer (some ⟨gf, 1, none⟩)) rfl rfl rfl (by kernel_rfl) (by kernel_rfl) (by kernel_rfl) (fun _ _ _ h => h) (Or.inl ⟨by rfl, fun wx _ => ?_⟩) (.inr x8) ?_
          · go_simp
          refine anyY_only (i := 8) (by kernel_rfl) ?_
          refine wpOp_step rfl fun K' hK' => ?_
          go_simp
          refine hK' _ _ ⟨.inr (.inl rfl), anyY_done (by kernel_rfl) ?_ _⟩
          clear hK' hS0 hS1 o1 x8 y8
          go_wp2
          go_roundw
          case rel => exact ⟨q + 1, _, by omega, by go_num, HN⟩
          case measure => simp [intOf]; omega
        · obtain rfl : q = nf := by omega
          have hO9 := HJ.out.own
          rw [List.take_of_length_le (by rw [HFL.out]; exact Nat.le_refl _)] at hO9
          obtain ⟨F9, c9, rfl, hc9, hF9⟩ := hO9.arr
          have hl9 : (fr.map (plI ord)).length = q := by rw [List.length_map]; exact HFL.out
          rw [hl9] at hc9 hF9 hO9 HJ
          have hbr := (HX4.out.below (B := gf) HJ.out.below HGR.out)
          have x0 : wr.cell? ⟨gf, 0, none⟩ = some (.slice D j cD) := HJ.out.box.cell 0
          have x1 : wr.cell? ⟨gf, 1, none⟩ = some (.slice F9 q c9) := HJ.out.box.cell 1
          have z0 : wr.cell? ⟨w.heap.size, 0, none⟩ = some (.slice none 0 0) := hbr.cell 0
          have z1 : wr.cell? ⟨w.heap.size, 1, none⟩ = some (.slice none 0 0) := hbr.cell 1
          have f0 := hbr.soft 0
          have f1 := hbr.soft 1
          have HBR := Lib.hid hbr
          have HF9 := Lib.hid hF9
          have HO9 := Lib.hid hO9.high
          have HB0 := Lib.hid hb0
          clear hbr hF9 hO9 hb0 hlq
          go_wp2
          have hgr := HGR.out
          have hB2 := ((HBR.out.set 0 (.slice D j cD)).set 1 (.slice F9 q c9))
          have hF2 := (HF9.out.setOther HO9.out (g := w.heap.size) (by omega) 0 (.slice D j cD)).setOther HO9.out (g := w.heap.size) (by omega) 1 (.slice F9 q c9)
          have hD2 := (HJ.out.arr.setOther HJ.out.high (g := w.heap.size) (by omega) 0 (.slice D j cD)).setOther HJ.out.high (g := w.heap.size) (by omega) 1 (.slice F9 q c9)
          have hV2 := fun p hp => (((HJ.out.obs p hp).setOther (g := w.heap.size) (by omega) 0 (.slice D j cD)).setOther (g := w.heap.size) (by omega) 1 (.slice F9 q c9)).less (lo' := w.heap.size) (by omega)
          have hE2 := below_set (below_set HB0.out (Nat.le_refl _) 0 (.slice D j cD)) (Nat.le_refl _) 1 (.slice F9 q c9)
          have hS2 : wr.heap.size = ((wr.setCell ⟨w.heap.size, 0, none⟩ (.slice D j cD)).setCell ⟨w.heap.size, 1, none⟩ (.slice F9 q c9)).heap.size := by simp [World.setCell]
          generalize ((wr.setCell ⟨w.heap.size, 0, none⟩ (.slice D j cD)).setCell ⟨w.heap.size, 1, none⟩ (.slice F9 q c9)) = W2 at *
          have y0 : W2.cell? ⟨w.heap.size, 0, none⟩ = some (.slice D j cD) := hB2.cell 0
          have y1 : W2.cell? ⟨w.heap.size, 1, none⟩ = some (.slice F9 q c9) := hB2.cell 1
          refine bodyPost_ret (v := .agg #[.slice D j cD, .slice F9 q c9]) (by simp [results, Try.results14, go_sem, y0, y1]) rfl ⟨D, cD, raws, F9, c9, by rw [HM.out, HFL.out], by rw [HM.out]; exact hcD, hE2, by rw [HM.out]; exact hD2.more (by omega), fun p hp => (hV2 p (by rw [← HM.out]; exact hp)).more (by omega), by rw [HFL.out]; exact hc9, by rw [HFL.out]; exact hF2.more (by omega)⟩
end Go.Proofs.Ytjefbekdjgmmbaa
