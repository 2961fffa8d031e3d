/-
  Contract of gap.Give, for every argument.
-/
import Derived.Test.YtggjgcnmkkoheaaTake
namespace Go.Proofs.Ytggjgcnmkkoheaa
open Go.RowKit

/-- What Give answers. -/
def GiveP (zs : List Int) (a : Int) (w : World) (e : Ending) (w' : World) : Prop := ∃ A k c, e = .returned (.tuple #[.slice A k c, .int .i64 (giveE zs a)]) ∧ Below w.heap.size w w' ∧
  ((giveE zs a ≠ 0 ∧ A = none ∧ k = 0 ∧ c = 0) ∨ (giveE zs a = 0 ∧ k = zs.length ∧ Fresh 42 w' w.heap.size A k c (giveL zs a.toNat)))
theorem giveP_bad {zs : List Int} {a : Int} {w w' : World} {E : Int} (h : giveE zs a = E) (hE : E ≠ 0) (hb : Below w.heap.size w w') : GiveP zs a w (.returned (.tuple #[.slice none 0 0, .int .i64 E])) w' := by
  subst h
  exact ⟨none, 0, 0, rfl, hb, .inl ⟨hE, rfl, rfl, rfl⟩⟩

set_option maxHeartbeats 400000 in
theorem give_bad (A : Option Addr) (n c : Nat) (a : Int) (zs : List Int) (w : World) (hn : n ≤ maxLen) (hnc : n ≤ c) (ha : Arr .u64 w w.heap.size A n zs) (he : arErr zs ≠ 0) :
    Calls Try.prog 12 #[.slice A n c, .int .i64 a] w (GiveP zs a w) := by
  have HR := Lib.hid (gRead_any A n c zs w hn hnc ha)
  have hb : (arErr zs != 0) = true := by simpa using he
  have HP := Lib.hid (fun w' hb => giveP_bad (a := a) (w := w) (w' := w') (giveE_bad he) he hb)
  unfold GReadP at HR
  generalize arErr zs = E at *
  clear ha he
  go_enter Try.func12, Try.ntmps12
  go_wp2_with fail
  refine HR.out.mono ?_
  rintro e w1 ⟨A2, m, c2, rfl, hb1, _⟩
  have HB1 := Lib.hid hb1
  clear hb1
  go_wp2
  go_ret2
  exact HP.out _ HB1.out

set_option maxHeartbeats 1000000 in
set_option maxRecDepth 8000 in
theorem give_none (A : Option Addr) (n c : Nat) (a : Int) (zs : List Int) (w : World) (hn : n ≤ maxLen) (hnc : n ≤ c) (ha : Arr .u64 w w.heap.size A n zs) (he : arErr zs = 0) (hf : liveStart zs a = false) :
    Calls Try.prog 12 #[.slice A n c, .int .i64 a] w (GiveP zs a w) := by
  have HR := Lib.hid (gRead_any A n c zs w hn hnc ha)
  have hs := (arErr_zero he).1
  have hm := begins_len (zs := zs) (a := 0)
  have h256 := (spErr_zero hs).1
  have HP := Lib.hid (fun w' hb => giveP_bad (a := a) (w := w) (w' := w') (giveE_none he hf) (by decide) hb)
  unfold GReadP at HR
  rw [he] at HR
  have HN := Lib.hid (fun k hk => no_live hs hf (k := k) hk)
  have HF := Lib.hid (fun A c w hx => find_any A (begins zs 0).length c 53 a (spList zs) not w (by unfold maxLen; omega) hx (fun args wx => Try.call53 args wx) (fun r b t f wx => isLive_any r b t f wx))
  clear ha he hf hs
  go_enter Try.func12, Try.ntmps12
  go_wp2_with fail
  refine HR.out.mono ?_
  rintro e w2 ⟨A2, m, c2', rfl, hb2, hr⟩
  rcases hr with ⟨hx, _⟩ | ⟨_, rfl, hmc, hA2⟩
  · exact absurd rfl hx
  have HB2 := Lib.hid hb2
  have HC2 := Lib.hid (HF.out A2 c2' w2 hA2)
  clear hb2 hA2 HF HR
  go_wp2_with fail
  refine HC2.out.mono ?_
  rintro e w3 ⟨hb3, hr⟩
  have HB3 := Lib.hid (HB2.out.trans (hb3.mono HB2.out.size))
  rcases hr with ⟨k, _, hk, hh⟩ | ⟨rfl, _⟩
  · rw [HN.out k hk] at hh; cases hh
  clear hb3 HC2
  go_wp2
  go_ret2
  exact HP.out _ HB3.out

theorem give_found {zs : List Int} {a : Int} {k : Nat} (hs : spErr zs = 0) (hk : k < (spList zs).length) (hh : hit a not (nthG (spList zs) k) = true) {s : Nat} (ha : a = s) : nthG (spList zs) k = spOf zs s ∧ st zs k = s := by
  rw [hit_spot hs hk] at hh
  simp only [Bool.and_eq_true, decide_eq_true_eq] at hh
  rw [spList_len hs] at hk
  have e : st zs k = s := by omega
  rw [spList_ok hs, nthG_map _ _ _ hk]
  refine ⟨?_, e⟩
  show spOf zs (st zs k) = _
  rw [e]
/-- What is known of the object at a word. -/
theorem live_facts {zs : List Int} {a : Int} (hz : ∀ z ∈ zs, (Lit.int .u64 z).wf = true) (h : liveStart zs a = true) : ∃ s L : Nat, a = s ∧ s ∈ begins zs 0 ∧ s < zs.length ∧ sLong (nth zs s) = L ∧ 0 < L ∧ s + L ≤ zs.length ∧ vF (nth zs s) = false ∧ 1 + vR (nth zs s) + vB (nth zs s) = L ∧ hFault (vR (nth zs s)) (vB (nth zs s)) (vT (nth zs s)) false = 0 := by
  obtain ⟨s, rfl, h1, h2⟩ := liveStart_iff.1 h
  obtain ⟨_, h3, h4⟩ := begins_mem h1
  obtain ⟨R, Bd, hR, hBd, q1, q2, q3, q4, q5, q6, q7, q8⟩ := spot_facts h4 hz h3
  rw [h2] at q6
  refine ⟨s, _, rfl, h1, h3, rfl, sLong_pos _, (stepOk_iff.1 h4).2, h2, ?_, ?_⟩
  · rw [hR, hBd]; omega
  · rw [hR, hBd]; exact q6

set_option maxHeartbeats 2000000 in
set_option maxRecDepth 8000 in
theorem give_some (A : Option Addr) (n c s : Nat) (zs : List Int) (w : World) (hn : n ≤ maxLen) (hnc : n ≤ c) (ha : Arr .u64 w w.heap.size A n zs) (he : arErr zs = 0) (hf : liveStart zs s = true) :
    Calls Try.prog 12 #[.slice A n c, .int .i64 s] w (GiveP zs s w) := by
  have hlen := ha.1
  have HR := Lib.hid (gRead_any A n c zs w hn hnc ha)
  have HO := Lib.hid (fun w ha => Objects_any A n c zs w hn hnc ha)
  obtain ⟨hs, hrefs⟩ := arErr_zero he
  have hm := begins_len (zs := zs) (a := 0)
  have h256 := (spErr_zero hs).1
  obtain ⟨s', L, hs', hmem, hslt, hL, hLpos, hsL, hvF, hlong, hfault⟩ := live_facts ha.2.1 hf
  obtain rfl : s = s' := by omega
  have HL : Hid (∀ w, Calls Try.prog 47 #[.agg #[.int .i64 (vR (nth zs s)), .int .i64 (vB (nth zs s)), .int .i64 (vT (nth zs s)), .bool false]] w fun e w' => e = .returned (.tuple #[.int .i64 (L : Int), .int .i64 0]) ∧ Below w.heap.size w w') := fun w => by
    rw [← hlong]; exact lengthOk _ _ _ false w hfault
  have HSP : Hid (spOf zs s = ((s : Int), vR (nth zs s), vB (nth zs s), vT (nth zs s), false)) := by
    show _ = _
    unfold spOf
    rw [hvF]
  have HHELD := Lib.hid (fun (k : Nat) (hk : k < (begins zs 0).length) (hst : st zs k = s) => (held_link hrefs hk (by rw [hst]; exact hvF)).trans (congrArg (heldAt zs) hst))
  have HNTH := Lib.hid (fun k hk hh => give_found hs (k := k) hk hh rfl (a := (s : Int)) (s := s))
  have HSL := Lib.hid (spList_len hs)
  have HF := Lib.hid (fun A c w hx => find_any A (begins zs 0).length c 53 s (spList zs) not w (by unfold maxLen; omega) hx (fun args wx => Try.call53 args wx) (fun r b t f wx => isLive_any r b t f wx))
  have HYES : Hid (∃ k, k < (spList zs).length ∧ hit s not (nthG (spList zs) k) = true) := by
    obtain ⟨k, hk, hst⟩ := mem_begins hmem
    refine ⟨k, by rw [spList_len hs]; exact hk, ?_⟩
    rw [hit_spot hs (by rw [spList_len hs]; exact hk), hst]
    simp [hvF]
  have HREL := Lib.hid (fun w ha => release_ok A n c s L zs w (by omega) hLpos (by omega) ha)
  have HBAD := Lib.hid (fun hh w' hb => giveP_bad (a := (s : Int)) (w := w) (w' := w') (giveE_held he hf (by rw [Int.toNat_natCast]; exact hh)) (by decide) hb)
  have HDONE : Hid (heldAt zs s = false → ∀ w' A' c', Below w.heap.size w w' → Fresh 42 w' w.heap.size A' n c' (putL zs s L (fWord L)) → GiveP zs s w (.returned (.tuple #[.slice A' n c', .int .i64 0])) w') := fun hh w' A' c' hb hF => by
    have hE := giveE_ok he hf (by rw [Int.toNat_natCast]; exact hh)
    refine ⟨A', n, c', by rw [hE], hb, .inr ⟨hE, hlen.symm, ?_⟩⟩
    unfold giveL
    rw [Int.toNat_natCast, hL]; exact hF
  have HZ : Hid ((putL zs s L (fWord L)).length = n) := by
    show _ = _
    rw [putL_len (by omega)]; exact hlen
  have HRL : Hid (∀ k, k < (begins zs 0).length → (refWords zs (st zs k)).length ≤ 256) := fun k hk => by
    have := (begins_mem (st_mem hk)).2.2
    obtain ⟨R, Bd, hR, hBd, q1, q2, _⟩ := spot_facts this ha.2.1 (begins_mem (st_mem hk)).2.1
    rw [refWords_len this, hR]; omega
  unfold GReadP at HR
  rw [he] at HR
  unfold ObjectsP at HO
  rw [he] at HO
  unfold PutP at HREL
  rw [HZ.out] at HREL
  unfold FindP at HF
  have HA := Lib.hid ha
  generalize putL zs s L (fWord L) = ys at *
  generalize vB (nth zs s) = VB at *
  generalize vR (nth zs s) = VR at *
  generalize vT (nth zs s) = VT at *
  clear ha he hs hf hL hvF hlong hfault hmem hs' hrefs
  go_enter Try.func12, Try.ntmps12
  go_wp2_with fail
  refine HR.out.mono ?_
  rintro e w2 ⟨A2, m, cc, rfl, hb2, hr⟩
  rcases hr with ⟨hx, _⟩ | ⟨_, rfl, hmc, hA2⟩
  · exact absurd rfl hx
  have HB2 := Lib.hid hb2
  have HC2 := Lib.hid (HF.out A2 cc w2 hA2)
  have HA2 := Lib.hid hA2
  clear hb2 hA2 HF HR hmc
  go_wp2_with fail
  refine HC2.out.mono ?_
  rintro e w3 ⟨hb3, hr⟩
  have HB3 := Lib.hid (HB2.out.trans (hb3.mono HB2.out.size))
  have HA3 := Lib.hid ((HA2.out.below hb3 (Nat.le_refl _)).more hb3.size)
  have hr' : ∃ k : Nat, e = .returned (.tuple #[.int .i64 k, .int .i64 0]) ∧ k < (spList zs).length ∧ hit s not (nthG (spList zs) k) = true := by
    rcases hr with hr | ⟨_, hno⟩
    · exact hr
    · obtain ⟨k, hk, hh⟩ := HYES.out
      rw [hno k hk] at hh; cases hh
  clear hr
  obtain ⟨k, rfl, hk, hh⟩ := hr'
  have hk2 := hk
  rw [HSL.out] at hk2
  obtain ⟨hsp, hst⟩ := HNTH.out k hk hh
  have HH := Lib.hid (HHELD.out k hk2 hst)
  have HK := Lib.hid hsp
  clear hb3 HC2 HA2 hk hh HYES HNTH HSL HHELD hst hsp
  go_wp2_with fail
  refine (HO.out _ ((HA.out.below HB3.out (Nat.le_refl _)).more HB3.out.size)).mono ?_
  rintro e w4 ⟨A4, m4, c4, rfl, hb4, hc4, hr⟩
  rcases hr with ⟨hx, _⟩ | ⟨_, rfl, raws, hraw, hobs⟩
  · exact absurd rfl hx
  have HB4 := Lib.hid (HB3.out.trans (hb4.mono HB3.out.size))
  have HA4 := Lib.hid ((HA3.out.below hb4 (Nat.le_refl _)).more hb4.size)
  have HHLD := Lib.hid (held_any A4 (begins zs 0).length c4 k w3.heap.size raws (fun j => obOf zs (st zs j)) w4 (by omega) (by omega) hraw hobs (fun j hj => by
    have h1 := (hobs j hj).refs.1
    have h2 := HRL.out j hj
    simp only [obOf, List.length_map] at h1
    unfold maxLen; omega))
  unfold heldB at HHLD
  rw [HH.out] at HHLD
  clear hb4 hc4 hraw hobs HO HA3 HH HRL
  obtain ⟨bb, off, rfl, hbB, d0, d1, d2, d3, d4⟩ := HA4.out.spot hk2
  rw [HK.out, HSP.out] at d0 d1 d2 d3 d4
  dsimp only at d0 d1 d2 d3 d4
  have hkm : (k : Int) < (((begins zs 0).length : Nat) : Int) := by omega
  generalize (begins zs 0).length = m at *
  clear HK HSP
  cases hhe : heldAt zs s
  · rw [hhe] at HHLD
    have HD := Lib.hid (HDONE.out hhe)
    clear HBAD HDONE hhe
    go_wp2_with fail
    refine HHLD.out.mono ?_
    rintro e w5 ⟨rfl, hb5⟩
    have HB5 := Lib.hid (HB4.out.trans (hb5.mono HB4.out.size))
    have k1 := (hb5.cell (p := ⟨bb, off + k * 5 + 1, none⟩) hbB).trans d1
    have k2 := (hb5.cell (p := ⟨bb, off + k * 5 + 2, none⟩) hbB).trans d2
    have k3 := (hb5.cell (p := ⟨bb, off + k * 5 + 3, none⟩) hbB).trans d3
    have k4 := (hb5.cell (p := ⟨bb, off + k * 5 + 4, none⟩) hbB).trans d4
    clear hb5 d0 d1 d2 d3 d4 HHLD HA4
    go_wp2_with fail
    refine (HL.out _).mono ?_
    rintro e w6 ⟨rfl, hb6⟩
    have HB6 := Lib.hid (HB5.out.trans (hb6.mono HB5.out.size))
    clear hb6 k1 k2 k3 k4
    go_wp2_with fail
    refine (HREL.out _ ((HA.out.below HB6.out (Nat.le_refl _)).more HB6.out.size)).mono ?_
    rintro e w7 ⟨g, rfl, hg, hW, hb7⟩
    have HB7 := Lib.hid (HB6.out.trans (hb7.mono HB6.out.size))
    have HFR : Hid (Fresh 42 w7 w.heap.size (some ⟨g, 0, none⟩) n n ys) := by
      have := Fresh.of hW (Nat.le_trans HB6.out.size hg) (by rw [HZ.out]; exact hn)
      rw [HZ.out] at this
      exact this
    clear hg hW hb7
    go_wp2
    go_ret2
    exact HD.out _ _ _ HB7.out HFR.out
  · rw [hhe] at HHLD
    have HD := Lib.hid (HBAD.out hhe)
    clear HBAD HDONE hhe
    go_wp2_with fail
    refine HHLD.out.mono ?_
    rintro e w5 ⟨rfl, hb5⟩
    have HB5 := Lib.hid (HB4.out.trans (hb5.mono HB4.out.size))
    clear hb5 d0 d1 d2 d3 d4 HHLD HA4
    go_wp2
    go_ret2
    exact HD.out _ HB5.out

theorem Give_any (A : Option Addr) (n c : Nat) (a : Int) (zs : List Int) (w : World) (hn : n ≤ maxLen) (hnc : n ≤ c) (ha : Arr .u64 w w.heap.size A n zs) :
    Calls Try.prog 12 #[.slice A n c, .int .i64 a] w (GiveP zs a w) := by
  by_cases he : arErr zs = 0
  · cases hf : liveStart zs a
    · exact give_none A n c a zs w hn hnc ha he hf
    · obtain ⟨s, rfl, _, _⟩ := liveStart_iff.1 hf
      exact give_some A n c s zs w hn hnc ha he hf
  · exact give_bad A n c a zs w hn hnc ha he
end Go.Proofs.Ytggjgcnmkkoheaa
