/-
  Contract of gap.Take, for every argument.
-/
import Derived.Test.YtggjgcnmkkoheaaTakeM
import Derived.Test.YtggjgcnmkkoheaaGapFind
namespace Go.Proofs.Ytggjgcnmkkoheaa
open Go.RowKit

/-- What Take answers. -/
def TakeP (zs : List Int) (a r b t : Int) (f : Bool) (w : World) (e : Ending) (w' : World) : Prop := ∃ A k c, e = .returned (.tuple #[.slice A k c, .int .i64 (takeE zs a r b t f)]) ∧ Below w.heap.size w w' ∧
  ((takeE zs a r b t f ≠ 0 ∧ k = 0) ∨ (takeE zs a r b t f = 0 ∧ k = zs.length ∧ Fresh 42 w' w.heap.size A k c (takeL zs a.toNat (1 + r + b).toNat (sLong (nth zs a.toNat)) (hWord r b t f))))

/-- The number that find gives, by the spots of an arena. -/
theorem hit_spot {zs : List Int} {a : Int} {wn : Bool → Bool} {k : Nat} (hs : spErr zs = 0) (hk : k < (spList zs).length) : hit a wn (nthG (spList zs) k) = (decide ((st zs k : Int) = a) && wn (vF (nth zs (st zs k)))) := by
  have hk' : k < (begins zs 0).length := by rw [spList_ok hs] at hk; simpa using hk
  rw [spList_ok hs, nthG_map _ _ _ hk']
  unfold hit spOf st
  rfl
theorem spList_len {zs : List Int} (hs : spErr zs = 0) : (spList zs).length = (begins zs 0).length := by rw [spList_ok hs]; simp
theorem no_free {zs : List Int} {a : Int} (hs : spErr zs = 0) (h : freeStart zs a = false) {k : Nat} (hk : k < (spList zs).length) : hit a id (nthG (spList zs) k) = false := by
  rw [hit_spot hs hk]
  rw [spList_len hs] at hk
  refine bool_not fun hh => ?_
  simp only [Bool.and_eq_true, decide_eq_true_eq, id] at hh
  have : freeStart zs a = true := freeStart_iff.2 ⟨st zs k, hh.1.symm, st_mem hk, hh.2⟩
  rw [h] at this; cases this
theorem no_live {zs : List Int} {a : Int} (hs : spErr zs = 0) (h : liveStart zs a = false) {k : Nat} (hk : k < (spList zs).length) : hit a not (nthG (spList zs) k) = false := by
  rw [hit_spot hs hk]
  rw [spList_len hs] at hk
  refine bool_not fun hh => ?_
  simp only [Bool.and_eq_true, decide_eq_true_eq] at hh
  have : liveStart zs a = true := liveStart_iff.2 ⟨st zs k, hh.1.symm, st_mem hk, by simpa using hh.2⟩
  rw [h] at this; cases this

set_option maxHeartbeats 400000 in
theorem take_head (A : Option Addr) (n c : Nat) (a r b t : Int) (f : Bool) (zs : List Int) (w : World) (h : hFault r b t f ≠ 0) :
    Calls Try.prog 11 #[.slice A n c, .int .i64 a, .agg #[.int .i64 r, .int .i64 b, .int .i64 t, .bool f]] w (TakeP zs a r b t f w) := by
  have hb : (hFault r b t f != 0) = true := by simpa using h
  have HL := Lib.hid (fun w => lengthBad r b t f w h)
  unfold TakeP
  rw [takeE_head h]
  have HH := Lib.hid h
  generalize hFault r b t f = E at *
  clear h
  have HBW := Lib.hid ((Below.refl w.heap.size w).alloc (Nat.le_refl _) (.cells #[.int .i64 r, .int .i64 b, .int .i64 t, .bool f] 24))
  go_enter Try.func11, Try.ntmps11
  go_wp2_with fail
  refine (HL.out _).mono ?_
  rintro e w1 ⟨rfl, hb1⟩
  have HB1 := Lib.hid (HBW.out.trans (hb1.mono HBW.out.size))
  clear hb1
  go_wp2
  go_ret2
  exact ⟨none, 0, 0, rfl, HB1.out, .inl ⟨HH.out, rfl⟩⟩

set_option maxHeartbeats 400000 in
theorem take_free (A : Option Addr) (n c : Nat) (a r b t : Int) (zs : List Int) (w : World) (h : hFault r b t true = 0) :
    Calls Try.prog 11 #[.slice A n c, .int .i64 a, .agg #[.int .i64 r, .int .i64 b, .int .i64 t, .bool true]] w (TakeP zs a r b t true w) := by
  have HL := Lib.hid (fun w => lengthOk r b t true w h)
  unfold TakeP
  rw [takeE_free h]
  clear h
  have HX := Lib.hid (Box4.new w (.int .i64 r) (.int .i64 b) (.int .i64 t) (.bool true))
  have HBW := Lib.hid ((Below.refl w.heap.size w).alloc (Nat.le_refl _) (.cells #[.int .i64 r, .int .i64 b, .int .i64 t, .bool true] 24))
  go_enter Try.func11, Try.ntmps11
  go_wp2_with fail
  refine (HL.out _).mono ?_
  rintro e w1 ⟨rfl, hb1⟩
  obtain ⟨c0, c1, c2, c3⟩ := (HX.out.below hb1 HX.out.lt).cells
  have HB1 := Lib.hid (HBW.out.trans (hb1.mono HBW.out.size))
  clear hb1
  go_wp2
  go_ret2
  exact ⟨none, 0, 0, rfl, HB1.out, .inl ⟨by decide, rfl⟩⟩

set_option maxHeartbeats 400000 in
theorem take_bad (A : Option Addr) (n c : Nat) (a r b t : Int) (zs : List Int) (w : World) (hn : n ≤ maxLen) (hnc : n ≤ c) (ha : Arr .u64 w w.heap.size A n zs) (h : hFault r b t false = 0) (he : arErr zs ≠ 0) :
    Calls Try.prog 11 #[.slice A n c, .int .i64 a, .agg #[.int .i64 r, .int .i64 b, .int .i64 t, .bool false]] w (TakeP zs a r b t false w) := by
  have HL := Lib.hid (fun w => lengthOk r b t false w h)
  have HR := Lib.hid (fun w ha => gRead_any A n c zs w hn hnc ha)
  have hb : (arErr zs != 0) = true := by simpa using he
  unfold TakeP
  unfold GReadP at HR
  rw [takeE_bad h he]
  have HA := Lib.hid ha
  have HH := Lib.hid he
  generalize arErr zs = E at *
  clear h ha he
  have HX := Lib.hid (Box4.new w (.int .i64 r) (.int .i64 b) (.int .i64 t) (.bool false))
  have HBW := Lib.hid ((Below.refl w.heap.size w).alloc (Nat.le_refl _) (.cells #[.int .i64 r, .int .i64 b, .int .i64 t, .bool false] 24))
  go_enter Try.func11, Try.ntmps11
  go_wp2_with fail
  refine (HL.out _).mono ?_
  rintro e w1 ⟨rfl, hb1⟩
  obtain ⟨c0, c1, c2, c3⟩ := (HX.out.below hb1 HX.out.lt).cells
  have HB1 := Lib.hid (HBW.out.trans (hb1.mono HBW.out.size))
  clear hb1
  go_wp2_with fail
  refine (HR.out _ ((HA.out.below HB1.out (Nat.le_refl _)).more HB1.out.size)).mono ?_
  rintro e w2 ⟨A2, m, c2', rfl, hb2, _⟩
  have HB2 := Lib.hid (HB1.out.trans (hb2.mono HB1.out.size))
  clear hb2 c0 c1 c2 c3
  go_wp2
  go_ret2
  exact ⟨none, 0, 0, rfl, HB2.out, .inl ⟨HH.out, rfl⟩⟩

set_option maxHeartbeats 1000000 in
set_option maxRecDepth 8000 in
theorem take_none (A : Option Addr) (n c : Nat) (a r b t : Int) (zs : List Int) (w : World) (hn : n ≤ maxLen) (hnc : n ≤ c) (ha : Arr .u64 w w.heap.size A n zs) (h : hFault r b t false = 0) (he : arErr zs = 0) (hf : freeStart zs a = false) :
    Calls Try.prog 11 #[.slice A n c, .int .i64 a, .agg #[.int .i64 r, .int .i64 b, .int .i64 t, .bool false]] w (TakeP zs a r b t false w) := by
  have HL := Lib.hid (fun w => lengthOk r b t false w h)
  have HR := Lib.hid (fun w ha => gRead_any A n c zs w hn hnc ha)
  have hs := (arErr_zero he).1
  have hm := begins_len (zs := zs) (a := 0)
  have h256 := (spErr_zero hs).1
  unfold TakeP
  unfold GReadP at HR
  rw [he] at HR
  rw [takeE_none h he hf]
  have HN := Lib.hid (fun k hk => no_free hs hf (k := k) hk)
  have HSL := Lib.hid (spList_len hs)
  have HF := Lib.hid (fun A c w hx => find_any A (begins zs 0).length c 51 a (spList zs) id w (by unfold maxLen; omega) hx (fun args wx => Try.call51 args wx) (fun r b t f wx => isFree_any r b t f wx))
  have HA := Lib.hid ha
  clear h ha he hf hs
  have HX := Lib.hid (Box4.new w (.int .i64 r) (.int .i64 b) (.int .i64 t) (.bool false))
  have HBW := Lib.hid ((Below.refl w.heap.size w).alloc (Nat.le_refl _) (.cells #[.int .i64 r, .int .i64 b, .int .i64 t, .bool false] 24))
  go_enter Try.func11, Try.ntmps11
  go_wp2_with fail
  refine (HL.out _).mono ?_
  rintro e w1 ⟨rfl, hb1⟩
  obtain ⟨c0, c1, c2, c3⟩ := (HX.out.below hb1 HX.out.lt).cells
  have HB1 := Lib.hid (HBW.out.trans (hb1.mono HBW.out.size))
  clear hb1
  go_wp2_with fail
  refine (HR.out _ ((HA.out.below HB1.out (Nat.le_refl _)).more HB1.out.size)).mono ?_
  rintro e w2 ⟨A2, m, c2', rfl, hb2, hr⟩
  rcases hr with ⟨hx, _⟩ | ⟨_, rfl, hmc, hA2⟩
  · exact absurd rfl hx
  have HB2 := Lib.hid (HB1.out.trans (hb2.mono HB1.out.size))
  have HC2 := Lib.hid (HF.out A2 c2' w2 hA2)
  clear hb2 c0 c1 c2 c3 hA2 HF HR
  go_wp2_with fail
  refine HC2.out.mono ?_
  rintro e w3 ⟨hb3, hr⟩
  have HB3 := Lib.hid (HB2.out.trans (hb3.mono HB2.out.size))
  rcases hr with ⟨k, _, hk, hh⟩ | ⟨rfl, _⟩
  · rw [HN.out k hk] at hh; cases hh
  clear hb3 HC2
  go_wp2
  go_ret2
  exact ⟨none, 0, 0, rfl, HB3.out, .inl ⟨by decide, rfl⟩⟩

/-- What is known of the free object at a word. -/
theorem free_facts {zs : List Int} {a : Int} (hz : ∀ z ∈ zs, (Lit.int .u64 z).wf = true) (h : freeStart zs a = true) : ∃ s L : Nat, a = s ∧ s ∈ begins zs 0 ∧ s < zs.length ∧ sLong (nth zs s) = L ∧ 0 < L ∧ s + L ≤ zs.length ∧ vR (nth zs s) = 0 ∧ vT (nth zs s) = 0 ∧ vF (nth zs s) = true ∧ 1 + (0 : Int) + vB (nth zs s) = L ∧ hFault 0 (vB (nth zs s)) 0 true = 0 := by
  obtain ⟨s, rfl, h1, h2⟩ := freeStart_iff.1 h
  obtain ⟨_, h3, h4⟩ := begins_mem h1
  obtain ⟨R, Bd, hR, hBd, q1, q2, q3, q4, q5, q6, q7, q8⟩ := spot_facts h4 hz h3
  obtain ⟨hR0, hT0⟩ := q5 h2
  subst hR0
  rw [h2, hT0] at q6
  refine ⟨s, _, rfl, h1, h3, rfl, sLong_pos _, (stepOk_iff.1 h4).2, by rw [hR]; rfl, hT0, h2, ?_, ?_⟩
  · rw [hBd]; omega
  · rw [hBd]; exact q6

/-- The walk up to the room of the free object. -/
theorem take_found {zs : List Int} {a : Int} {k : Nat} (hs : spErr zs = 0) (hk : k < (spList zs).length) (hh : hit a id (nthG (spList zs) k) = true) {s : Nat} (ha : a = s) : nthG (spList zs) k = spOf zs s := by
  rw [hit_spot hs hk] at hh
  simp only [Bool.and_eq_true, decide_eq_true_eq] at hh
  rw [spList_len hs] at hk
  have e : st zs k = s := by omega
  rw [spList_ok hs, nthG_map _ _ _ hk]
  show spOf zs (st zs k) = _
  rw [e]

set_option maxHeartbeats 2000000 in
set_option maxRecDepth 8000 in
theorem take_full (A : Option Addr) (n c s L N : Nat) (r b t : Int) (zs : List Int) (w : World) (hn : n ≤ maxLen) (hnc : n ≤ c) (ha : Arr .u64 w w.heap.size A n zs) (h : hFault r b t false = 0) (he : arErr zs = 0) (hfree : freeStart zs s = true) (hL : sLong (nth zs s) = L) (hN : 1 + r + b = (N : Int)) (hbig : (L : Int) < N) :
    Calls Try.prog 11 #[.slice A n c, .int .i64 s, .agg #[.int .i64 r, .int .i64 b, .int .i64 t, .bool false]] w (TakeP zs s r b t false w) := by
  have hlen := ha.1
  have hs := (arErr_zero he).1
  have hm := begins_len (zs := zs) (a := 0)
  have h256 := (spErr_zero hs).1
  have hN0 : 0 < N := by have := hFault_ok h; omega
  obtain ⟨s', L', hs', hmem, hslt, hL', hLpos, hsL, hvR, hvT, hvF, hvB, hfault⟩ := free_facts ha.2.1 hfree
  obtain rfl : s = s' := by omega
  obtain rfl : L = L' := by omega
  have HL : Hid (∀ w, Calls Try.prog 47 #[.agg #[.int .i64 r, .int .i64 b, .int .i64 t, .bool false]] w fun e w' => e = .returned (.tuple #[.int .i64 (N : Int), .int .i64 0]) ∧ Below w.heap.size w w') := fun w => by
    rw [← hN]; exact lengthOk r b t false w h
  have HL2 : Hid (∀ w, Calls Try.prog 47 #[.agg #[.int .i64 0, .int .i64 (vB (nth zs s)), .int .i64 0, .bool true]] w fun e w' => e = .returned (.tuple #[.int .i64 (L : Int), .int .i64 0]) ∧ Below w.heap.size w w') := fun w => by
    rw [← hvB]; exact lengthOk 0 (vB (nth zs s)) 0 true w hfault
  have HR := Lib.hid (fun w ha => gRead_any A n c zs w hn hnc ha)
  have HNTH := Lib.hid (fun k hk hh => take_found hs (k := k) hk hh rfl (a := (s : Int)) (s := s))
  have HSL := Lib.hid (spList_len hs)
  have HF := Lib.hid (fun A c w hx => find_any A (begins zs 0).length c 51 s (spList zs) id w (by unfold maxLen; omega) hx (fun args wx => Try.call51 args wx) (fun r b t f wx => isFree_any r b t f wx))
  have HYES : Hid (∃ k, k < (spList zs).length ∧ hit s id (nthG (spList zs) k) = true) := by
    obtain ⟨k, hk, hst⟩ := mem_begins hmem
    refine ⟨k, by rw [spList_len hs]; exact hk, ?_⟩
    rw [hit_spot hs (by rw [spList_len hs]; exact hk), hst]
    simp [hvF]
  have HSP : Hid (spOf zs s = ((s : Int), 0, vB (nth zs s), 0, true)) := by
    show _ = _
    unfold spOf
    rw [hvR, hvT, hvF]
  have HPUT := Lib.hid (fun w ha hp => put_ok A n c s r b t false N zs w (by omega) h hN hp ha)
  have HREL := Lib.hid (fun g w ha hp hq => release_ok (some ⟨g, 0, none⟩) n n (s + N) (L - N) (putL zs s N (hWord r b t false)) w (by omega) hp hq ha)
  have HE : Hid (takeE zs s r b t false = if (L : Int) < N then 7 else 0) := by
    show _ = _
    by_cases hh : (L : Int) < N
    · rw [if_pos hh]; exact takeE_full h he hfree (by rw [Int.toNat_natCast, hL']; omega)
    · rw [if_neg hh]; exact takeE_ok h he hfree (by rw [Int.toNat_natCast, hL']; omega)
  have HBAD : Hid ((L : Int) < N → ∀ w', Below w.heap.size w w' → TakeP zs s r b t false w (.returned (.tuple #[.slice none 0 0, .int .i64 7])) w') := fun hh w' hb => by
    refine ⟨none, 0, 0, ?_, hb, .inl ⟨?_, rfl⟩⟩
    · rw [HE.out, if_pos hh]
    · rw [HE.out, if_pos hh]; decide
  have HDONE : Hid (¬ (L : Int) < N → ∀ w' A' c', Below w.heap.size w w' → Fresh 42 w' w.heap.size A' n c' (takeL zs s N L (hWord r b t false)) → TakeP zs s r b t false w (.returned (.tuple #[.slice A' n c', .int .i64 0])) w') := fun hh w' A' c' hb hF => by
    refine ⟨A', n, c', ?_, hb, .inr ⟨?_, hlen.symm, ?_⟩⟩
    · rw [HE.out, if_neg hh]
    · rw [HE.out, if_neg hh]
    · rw [Int.toNat_natCast, hL', show (1 + r + b).toNat = N by omega]; exact hF
  unfold GReadP at HR
  rw [he] at HR
  unfold PutP at HPUT HREL
  unfold FindP at HF
  have HA := Lib.hid ha
  have HZL : Hid ((putL zs s N (hWord r b t false)).length = n ∨ n < s + N) := by
    show _ ∨ _
    rcases Nat.lt_or_ge n (s + N) with h1 | h1
    · exact .inr h1
    · left; rw [putL_len (by omega)]; exact hlen
  have HZ2 : Hid (N < L → (putL (putL zs s N (hWord r b t false)) (s + N) (L - N) (fWord (L - N))).length = n) := fun h1 => by
    rw [putL_len (by rw [putL_len (by omega)]; omega), putL_len (by omega)]; exact hlen
  unfold takeL at HDONE
  generalize hWord r b t false = V at *
  generalize vB (nth zs s) = VB at *
  clear h ha he hs hfree hL hL' hvR hvT hvF hvB hfault hmem hs' hN
  have HX := Lib.hid (Box4.new w (.int .i64 r) (.int .i64 b) (.int .i64 t) (.bool false))
  have HBW := Lib.hid ((Below.refl w.heap.size w).alloc (Nat.le_refl _) (.cells #[.int .i64 r, .int .i64 b, .int .i64 t, .bool false] 24))
  go_enter Try.func11, Try.ntmps11
  go_wp2_with fail
  refine (HL.out _).mono ?_
  rintro e w1 ⟨rfl, hb1⟩
  have HX1 := Lib.hid (HX.out.below hb1 HX.out.lt)
  obtain ⟨c0, c1, c2, c3⟩ := HX1.out.cells
  have HB1 := Lib.hid (HBW.out.trans (hb1.mono HBW.out.size))
  have HG1 := Lib.hid HX1.out.lt
  clear hb1 HX HBW
  go_wp2_with fail
  refine (HR.out _ ((HA.out.below HB1.out (Nat.le_refl _)).more HB1.out.size)).mono ?_
  rintro e w2 ⟨A2, m, cc, rfl, hb2, hr⟩
  rcases hr with ⟨hx, _⟩ | ⟨_, rfl, hmc, hA2⟩
  · exact absurd rfl hx
  have HX2 := Lib.hid (HX1.out.below hb2 HG1.out)
  have HB2 := Lib.hid (HB1.out.trans (hb2.mono HB1.out.size))
  have HC2 := Lib.hid (HF.out A2 cc w2 hA2)
  have HA2 := Lib.hid hA2
  clear hb2 c0 c1 c2 c3 hA2 HF HR HX1 HG1 hmc
  go_wp2_with fail
  refine HC2.out.mono ?_
  rintro e w3 ⟨hb3, hr⟩
  have HB3 := Lib.hid (HB2.out.trans (hb3.mono HB2.out.size))
  have HX3 := Lib.hid (HX2.out.below hb3 HX2.out.lt)
  have HA3 := Lib.hid ((HA2.out.below hb3 (Nat.le_refl _)).more hb3.size)
  have hr' : ∃ k : Nat, e = .returned (.tuple #[.int .i64 k, .int .i64 0]) ∧ k < (spList zs).length ∧ hit s id (nthG (spList zs) k) = true := by
    rcases hr with hr | ⟨_, hno⟩
    · exact hr
    · obtain ⟨k, hk, hh⟩ := HYES.out
      rw [hno k hk] at hh; cases hh
  clear hr
  obtain ⟨k, rfl, hk, hh⟩ := hr'
  have hk2 := hk
  rw [HSL.out] at hk2
  obtain ⟨bb, off, rfl, hbB, d0, d1, d2, d3, d4⟩ := HA3.out.spot hk2
  rw [HNTH.out k hk hh, HSP.out] at d0 d1 d2 d3 d4
  dsimp only at d0 d1 d2 d3 d4
  generalize (begins zs 0).length = m at *
  have hkm : (k : Int) < (m : Int) := by omega
  clear hb3 HC2 HA2 HX2 hk hh HYES HSP HNTH HSL
  go_wp2_with fail
  refine (HL2.out _).mono ?_
  rintro e w4 ⟨rfl, hb4⟩
  have HB4 := Lib.hid (HB3.out.trans (hb4.mono HB3.out.size))
  have HX4 := Lib.hid (HX3.out.below hb4 HX3.out.lt)
  obtain ⟨c0, c1, c2, c3⟩ := HX4.out.cells
  clear hb4 d0 d1 d2 d3 d4 HX3 HA3 hbB
  have HA4 := Lib.hid ((HA.out.below HB4.out (Nat.le_refl _)).more HB4.out.size)
  clear HPUT HREL HA4 HZL HZ2 HL HL2
  have hgt : (N : Int) > (L : Int) := hbig
  go_wp2
  go_ret2
  exact HBAD.out hbig _ HB4.out
set_option maxHeartbeats 2000000 in
set_option maxRecDepth 8000 in
theorem take_all (A : Option Addr) (n c s L N : Nat) (r b t : Int) (zs : List Int) (w : World) (hn : n ≤ maxLen) (hnc : n ≤ c) (ha : Arr .u64 w w.heap.size A n zs) (h : hFault r b t false = 0) (he : arErr zs = 0) (hfree : freeStart zs s = true) (hL : sLong (nth zs s) = L) (hN : 1 + r + b = (N : Int)) (hbig : L = N) :
    Calls Try.prog 11 #[.slice A n c, .int .i64 s, .agg #[.int .i64 r, .int .i64 b, .int .i64 t, .bool false]] w (TakeP zs s r b t false w) := by
  have hlen := ha.1
  have hs := (arErr_zero he).1
  have hm := begins_len (zs := zs) (a := 0)
  have h256 := (spErr_zero hs).1
  have hN0 : 0 < N := by have := hFault_ok h; omega
  obtain ⟨s', L', hs', hmem, hslt, hL', hLpos, hsL, hvR, hvT, hvF, hvB, hfault⟩ := free_facts ha.2.1 hfree
  obtain rfl : s = s' := by omega
  obtain rfl : L = L' := by omega
  have HL : Hid (∀ w, Calls Try.prog 47 #[.agg #[.int .i64 r, .int .i64 b, .int .i64 t, .bool false]] w fun e w' => e = .returned (.tuple #[.int .i64 (N : Int), .int .i64 0]) ∧ Below w.heap.size w w') := fun w => by
    rw [← hN]; exact lengthOk r b t false w h
  have HL2 : Hid (∀ w, Calls Try.prog 47 #[.agg #[.int .i64 0, .int .i64 (vB (nth zs s)), .int .i64 0, .bool true]] w fun e w' => e = .returned (.tuple #[.int .i64 (L : Int), .int .i64 0]) ∧ Below w.heap.size w w') := fun w => by
    rw [← hvB]; exact lengthOk 0 (vB (nth zs s)) 0 true w hfault
  have HR := Lib.hid (fun w ha => gRead_any A n c zs w hn hnc ha)
  have HNTH := Lib.hid (fun k hk hh => take_found hs (k := k) hk hh rfl (a := (s : Int)) (s := s))
  have HSL := Lib.hid (spList_len hs)
  have HF := Lib.hid (fun A c w hx => find_any A (begins zs 0).length c 51 s (spList zs) id w (by unfold maxLen; omega) hx (fun args wx => Try.call51 args wx) (fun r b t f wx => isFree_any r b t f wx))
  have HYES : Hid (∃ k, k < (spList zs).length ∧ hit s id (nthG (spList zs) k) = true) := by
    obtain ⟨k, hk, hst⟩ := mem_begins hmem
    refine ⟨k, by rw [spList_len hs]; exact hk, ?_⟩
    rw [hit_spot hs (by rw [spList_len hs]; exact hk), hst]
    simp [hvF]
  have HSP : Hid (spOf zs s = ((s : Int), 0, vB (nth zs s), 0, true)) := by
    show _ = _
    unfold spOf
    rw [hvR, hvT, hvF]
  have HPUT := Lib.hid (fun w ha hp => put_ok A n c s r b t false N zs w (by omega) h hN hp ha)
  have HREL := Lib.hid (fun g w ha hp hq => release_ok (some ⟨g, 0, none⟩) n n (s + N) (L - N) (putL zs s N (hWord r b t false)) w (by omega) hp hq ha)
  have HE : Hid (takeE zs s r b t false = if (L : Int) < N then 7 else 0) := by
    show _ = _
    by_cases hh : (L : Int) < N
    · rw [if_pos hh]; exact takeE_full h he hfree (by rw [Int.toNat_natCast, hL']; omega)
    · rw [if_neg hh]; exact takeE_ok h he hfree (by rw [Int.toNat_natCast, hL']; omega)
  have HBAD : Hid ((L : Int) < N → ∀ w', Below w.heap.size w w' → TakeP zs s r b t false w (.returned (.tuple #[.slice none 0 0, .int .i64 7])) w') := fun hh w' hb => by
    refine ⟨none, 0, 0, ?_, hb, .inl ⟨?_, rfl⟩⟩
    · rw [HE.out, if_pos hh]
    · rw [HE.out, if_pos hh]; decide
  have HDONE : Hid (¬ (L : Int) < N → ∀ w' A' c', Below w.heap.size w w' → Fresh 42 w' w.heap.size A' n c' (takeL zs s N L (hWord r b t false)) → TakeP zs s r b t false w (.returned (.tuple #[.slice A' n c', .int .i64 0])) w') := fun hh w' A' c' hb hF => by
    refine ⟨A', n, c', ?_, hb, .inr ⟨?_, hlen.symm, ?_⟩⟩
    · rw [HE.out, if_neg hh]
    · rw [HE.out, if_neg hh]
    · rw [Int.toNat_natCast, hL', show (1 + r + b).toNat = N by omega]; exact hF
  unfold GReadP at HR
  rw [he] at HR
  unfold PutP at HPUT HREL
  unfold FindP at HF
  have HA := Lib.hid ha
  have HZL : Hid ((putL zs s N (hWord r b t false)).length = n ∨ n < s + N) := by
    show _ ∨ _
    rcases Nat.lt_or_ge n (s + N) with h1 | h1
    · exact .inr h1
    · left; rw [putL_len (by omega)]; exact hlen
  have HZ2 : Hid (N < L → (putL (putL zs s N (hWord r b t false)) (s + N) (L - N) (fWord (L - N))).length = n) := fun h1 => by
    rw [putL_len (by rw [putL_len (by omega)]; omega), putL_len (by omega)]; exact hlen
  unfold takeL at HDONE
  generalize hWord r b t false = V at *
  generalize vB (nth zs s) = VB at *
  clear h ha he hs hfree hL hL' hvR hvT hvF hvB hfault hmem hs' hN
  have HX := Lib.hid (Box4.new w (.int .i64 r) (.int .i64 b) (.int .i64 t) (.bool false))
  have HBW := Lib.hid ((Below.refl w.heap.size w).alloc (Nat.le_refl _) (.cells #[.int .i64 r, .int .i64 b, .int .i64 t, .bool false] 24))
  go_enter Try.func11, Try.ntmps11
  go_wp2_with fail
  refine (HL.out _).mono ?_
  rintro e w1 ⟨rfl, hb1⟩
  have HX1 := Lib.hid (HX.out.below hb1 HX.out.lt)
  obtain ⟨c0, c1, c2, c3⟩ := HX1.out.cells
  have HB1 := Lib.hid (HBW.out.trans (hb1.mono HBW.out.size))
  have HG1 := Lib.hid HX1.out.lt
  clear hb1 HX HBW
  go_wp2_with fail
  refine (HR.out _ ((HA.out.below HB1.out (Nat.le_refl _)).more HB1.out.size)).mono ?_
  rintro e w2 ⟨A2, m, cc, rfl, hb2, hr⟩
  rcases hr with ⟨hx, _⟩ | ⟨_, rfl, hmc, hA2⟩
  · exact absurd rfl hx
  have HX2 := Lib.hid (HX1.out.below hb2 HG1.out)
  have HB2 := Lib.hid (HB1.out.trans (hb2.mono HB1.out.size))
  have HC2 := Lib.hid (HF.out A2 cc w2 hA2)
  have HA2 := Lib.hid hA2
  clear hb2 c0 c1 c2 c3 hA2 HF HR HX1 HG1 hmc
  go_wp2_with fail
  refine HC2.out.mono ?_
  rintro e w3 ⟨hb3, hr⟩
  have HB3 := Lib.hid (HB2.out.trans (hb3.mono HB2.out.size))
  have HX3 := Lib.hid (HX2.out.below hb3 HX2.out.lt)
  have HA3 := Lib.hid ((HA2.out.below hb3 (Nat.le_refl _)).more hb3.size)
  have hr' : ∃ k : Nat, e = .returned (.tuple #[.int .i64 k, .int .i64 0]) ∧ k < (spList zs).length ∧ hit s id (nthG (spList zs) k) = true := by
    rcases hr with hr | ⟨_, hno⟩
    · exact hr
    · obtain ⟨k, hk, hh⟩ := HYES.out
      rw [hno k hk] at hh; cases hh
  clear hr
  obtain ⟨k, rfl, hk, hh⟩ := hr'
  have hk2 := hk
  rw [HSL.out] at hk2
  obtain ⟨bb, off, rfl, hbB, d0, d1, d2, d3, d4⟩ := HA3.out.spot hk2
  rw [HNTH.out k hk hh, HSP.out] at d0 d1 d2 d3 d4
  dsimp only at d0 d1 d2 d3 d4
  generalize (begins zs 0).length = m at *
  have hkm : (k : Int) < (m : Int) := by omega
  clear hb3 HC2 HA2 HX2 hk hh HYES HSP HNTH HSL
  go_wp2_with fail
  refine (HL2.out _).mono ?_
  rintro e w4 ⟨rfl, hb4⟩
  have HB4 := Lib.hid (HB3.out.trans (hb4.mono HB3.out.size))
  have HX4 := Lib.hid (HX3.out.below hb4 HX3.out.lt)
  obtain ⟨c0, c1, c2, c3⟩ := HX4.out.cells
  clear hb4 d0 d1 d2 d3 d4 HX3 HA3 hbB
  have HA4 := Lib.hid ((HA.out.below HB4.out (Nat.le_refl _)).more HB4.out.size)
  subst hbig
  have HZ : Hid ((putL zs s L V).length = n) := by
    rcases HZL.out with h1 | h1
    · exact h1
    · omega
  rw [HZ.out] at HPUT
  have hng : ¬ ((L : Int) > (L : Int)) := by omega
  have heq : ((L : Int) == (L : Int)) = true := by simp
  clear HREL HZ2 HZL HL HL2
  go_wp2_with fail
  refine (HPUT.out _ HA4.out (by omega)).mono ?_
  rintro e w5 ⟨g, rfl, hg, hW, hb5⟩
  have HB5 := Lib.hid (HB4.out.trans (hb5.mono HB4.out.size))
  have HFR : Hid (Fresh 42 w5 w.heap.size (some ⟨g, 0, none⟩) n n (putL zs s L V)) := by
    have := Fresh.of hW (Nat.le_trans HB4.out.size hg) (by rw [HZ.out]; exact hn)
    rw [HZ.out] at this
    exact this
  clear hg hW hb5 c0 c1 c2 c3
  go_wp2
  go_ret2
  exact HDONE.out (by omega) _ _ _ HB5.out (by rw [if_pos (by trivial)]; exact HFR.out)
set_option maxHeartbeats 2000000 in
set_option maxRecDepth 8000 in
theorem take_part (A : Option Addr) (n c s L N : Nat) (r b t : Int) (zs : List Int) (w : World) (hn : n ≤ maxLen) (hnc : n ≤ c) (ha : Arr .u64 w w.heap.size A n zs) (h : hFault r b t false = 0) (he : arErr zs = 0) (hfree : freeStart zs s = true) (hL : sLong (nth zs s) = L) (hN : 1 + r + b = (N : Int)) (hbig : N < L) :
    Calls Try.prog 11 #[.slice A n c, .int .i64 s, .agg #[.int .i64 r, .int .i64 b, .int .i64 t, .bool false]] w (TakeP zs s r b t false w) := by
  have hlen := ha.1
  have hs := (arErr_zero he).1
  have hm := begins_len (zs := zs) (a := 0)
  have h256 := (spErr_zero hs).1
  have hN0 : 0 < N := by have := hFault_ok h; omega
  obtain ⟨s', L', hs', hmem, hslt, hL', hLpos, hsL, hvR, hvT, hvF, hvB, hfault⟩ := free_facts ha.2.1 hfree
  obtain rfl : s = s' := by omega
  obtain rfl : L = L' := by omega
  have HL : Hid (∀ w, Calls Try.prog 47 #[.agg #[.int .i64 r, .int .i64 b, .int .i64 t, .bool false]] w fun e w' => e = .returned (.tuple #[.int .i64 (N : Int), .int .i64 0]) ∧ Below w.heap.size w w') := fun w => by
    rw [← hN]; exact lengthOk r b t false w h
  have HL2 : Hid (∀ w, Calls Try.prog 47 #[.agg #[.int .i64 0, .int .i64 (vB (nth zs s)), .int .i64 0, .bool true]] w fun e w' => e = .returned (.tuple #[.int .i64 (L : Int), .int .i64 0]) ∧ Below w.heap.size w w') := fun w => by
    rw [← hvB]; exact lengthOk 0 (vB (nth zs s)) 0 true w hfault
  have HR := Lib.hid (fun w ha => gRead_any A n c zs w hn hnc ha)
  have HNTH := Lib.hid (fun k hk hh => take_found hs (k := k) hk hh rfl (a := (s : Int)) (s := s))
  have HSL := Lib.hid (spList_len hs)
  have HF := Lib.hid (fun A c w hx => find_any A (begins zs 0).length c 51 s (spList zs) id w (by unfold maxLen; omega) hx (fun args wx => Try.call51 args wx) (fun r b t f wx => isFree_any r b t f wx))
  have HYES : Hid (∃ k, k < (spList zs).length ∧ hit s id (nthG (spList zs) k) = true) := by
    obtain ⟨k, hk, hst⟩ := mem_begins hmem
    refine ⟨k, by rw [spList_len hs]; exact hk, ?_⟩
    rw [hit_spot hs (by rw [spList_len hs]; exact hk), hst]
    simp [hvF]
  have HSP : Hid (spOf zs s = ((s : Int), 0, vB (nth zs s), 0, true)) := by
    show _ = _
    unfold spOf
    rw [hvR, hvT, hvF]
  have HPUT := Lib.hid (fun w ha hp => put_ok A n c s r b t false N zs w (by omega) h hN hp ha)
  have HREL := Lib.hid (fun g w ha hp hq => release_ok (some ⟨g, 0, none⟩) n n (s + N) (L - N) (putL zs s N (hWord r b t false)) w (by omega) hp hq ha)
  have HE : Hid (takeE zs s r b t false = if (L : Int) < N then 7 else 0) := by
    show _ = _
    by_cases hh : (L : Int) < N
    · rw [if_pos hh]; exact takeE_full h he hfree (by rw [Int.toNat_natCast, hL']; omega)
    · rw [if_neg hh]; exact takeE_ok h he hfree (by rw [Int.toNat_natCast, hL']; omega)
  have HBAD : Hid ((L : Int) < N → ∀ w', Below w.heap.size w w' → TakeP zs s r b t false w (.returned (.tuple #[.slice none 0 0, .int .i64 7])) w') := fun hh w' hb => by
    refine ⟨none, 0, 0, ?_, hb, .inl ⟨?_, rfl⟩⟩
    · rw [HE.out, if_pos hh]
    · rw [HE.out, if_pos hh]; decide
  have HDONE : Hid (¬ (L : Int) < N → ∀ w' A' c', Below w.heap.size w w' → Fresh 42 w' w.heap.size A' n c' (takeL zs s N L (hWord r b t false)) → TakeP zs s r b t false w (.returned (.tuple #[.slice A' n c', .int .i64 0])) w') := fun hh w' A' c' hb hF => by
    refine ⟨A', n, c', ?_, hb, .inr ⟨?_, hlen.symm, ?_⟩⟩
    · rw [HE.out, if_neg hh]
    · rw [HE.out, if_neg hh]
    · rw [Int.toNat_natCast, hL', show (1 + r + b).toNat = N by omega]; exact hF
  unfold GReadP at HR
  rw [he] at HR
  unfold PutP at HPUT HREL
  unfold FindP at HF
  have HA := Lib.hid ha
  have HZL : Hid ((putL zs s N (hWord r b t false)).length = n ∨ n < s + N) := by
    show _ ∨ _
    rcases Nat.lt_or_ge n (s + N) with h1 | h1
    · exact .inr h1
    · left; rw [putL_len (by omega)]; exact hlen
  have HZ2 : Hid (N < L → (putL (putL zs s N (hWord r b t false)) (s + N) (L - N) (fWord (L - N))).length = n) := fun h1 => by
    rw [putL_len (by rw [putL_len (by omega)]; omega), putL_len (by omega)]; exact hlen
  unfold takeL at HDONE
  generalize hWord r b t false = V at *
  generalize vB (nth zs s) = VB at *
  clear h ha he hs hfree hL hL' hvR hvT hvF hvB hfault hmem hs' hN
  have HX := Lib.hid (Box4.new w (.int .i64 r) (.int .i64 b) (.int .i64 t) (.bool false))
  have HBW := Lib.hid ((Below.refl w.heap.size w).alloc (Nat.le_refl _) (.cells #[.int .i64 r, .int .i64 b, .int .i64 t, .bool false] 24))
  go_enter Try.func11, Try.ntmps11
  go_wp2_with fail
  refine (HL.out _).mono ?_
  rintro e w1 ⟨rfl, hb1⟩
  have HX1 := Lib.hid (HX.out.below hb1 HX.out.lt)
  obtain ⟨c0, c1, c2, c3⟩ := HX1.out.cells
  have HB1 := Lib.hid (HBW.out.trans (hb1.mono HBW.out.size))
  have HG1 := Lib.hid HX1.out.lt
  clear hb1 HX HBW
  go_wp2_with fail
  refine (HR.out _ ((HA.out.below HB1.out (Nat.le_refl _)).more HB1.out.size)).mono ?_
  rintro e w2 ⟨A2, m, cc, rfl, hb2, hr⟩
  rcases hr with ⟨hx, _⟩ | ⟨_, rfl, hmc, hA2⟩
  · exact absurd rfl hx
  have HX2 := Lib.hid (HX1.out.below hb2 HG1.out)
  have HB2 := Lib.hid (HB1.out.trans (hb2.mono HB1.out.size))
  have HC2 := Lib.hid (HF.out A2 cc w2 hA2)
  have HA2 := Lib.hid hA2
  clear hb2 c0 c1 c2 c3 hA2 HF HR HX1 HG1 hmc
  go_wp2_with fail
  refine HC2.out.mono ?_
  rintro e w3 ⟨hb3, hr⟩
  have HB3 := Lib.hid (HB2.out.trans (hb3.mono HB2.out.size))
  have HX3 := Lib.hid (HX2.out.below hb3 HX2.out.lt)
  have HA3 := Lib.hid ((HA2.out.below hb3 (Nat.le_refl _)).more hb3.size)
  have hr' : ∃ k : Nat, e = .returned (.tuple #[.int .i64 k, .int .i64 0]) ∧ k < (spList zs).length ∧ hit s id (nthG (spList zs) k) = true := by
    rcases hr with hr | ⟨_, hno⟩
    · exact hr
    · obtain ⟨k, hk, hh⟩ := HYES.out
      rw [hno k hk] at hh; cases hh
  clear hr
  obtain ⟨k, rfl, hk, hh⟩ := hr'
  have hk2 := hk
  rw [HSL.out] at hk2
  obtain ⟨bb, off, rfl, hbB, d0, d1, d2, d3, d4⟩ := HA3.out.spot hk2
  rw [HNTH.out k hk hh, HSP.out] at d0 d1 d2 d3 d4
  dsimp only at d0 d1 d2 d3 d4
  generalize (begins zs 0).length = m at *
  have hkm : (k : Int) < (m : Int) := by omega
  clear hb3 HC2 HA2 HX2 hk hh HYES HSP HNTH HSL
  go_wp2_with fail
  refine (HL2.out _).mono ?_
  rintro e w4 ⟨rfl, hb4⟩
  have HB4 := Lib.hid (HB3.out.trans (hb4.mono HB3.out.size))
  have HX4 := Lib.hid (HX3.out.below hb4 HX3.out.lt)
  obtain ⟨c0, c1, c2, c3⟩ := HX4.out.cells
  clear hb4 d0 d1 d2 d3 d4 HX3 HA3 hbB
  have HA4 := Lib.hid ((HA.out.below HB4.out (Nat.le_refl _)).more HB4.out.size)
  have HZ : Hid ((putL zs s N V).length = n) := by
    rcases HZL.out with h1 | h1
    · exact h1
    · omega
  rw [HZ.out] at HPUT
  have HZ3 := Lib.hid (HZ2.out hbig)
  rw [HZ3.out] at HREL
  have hng : ¬ ((N : Int) > (L : Int)) := by omega
  have heq : ((N : Int) == (L : Int)) = false := by simp; omega
  have heq2 : (((N : Nat) : Int) = ((L : Nat) : Int)) = False := eq_false (by omega)
  have E1 : Hid ((s : Int) + (N : Int) = ((s + N : Nat) : Int)) := Lib.hid (by omega)
  have E2 : Hid ((L : Int) - (N : Int) = ((L - N : Nat) : Int)) := Lib.hid (by omega)
  clear HZ2 HZL HL HL2
  go_wp2_with fail
  refine (HPUT.out _ HA4.out (by omega)).mono ?_
  rintro e w5 ⟨g, rfl, hg, hW, hb5⟩
  have HB5 := Lib.hid (HB4.out.trans (hb5.mono HB4.out.size))
  have hA5 := hW.arr hW.lt
  rw [HZ.out] at hA5
  have HA5 := Lib.hid hA5
  clear hg hW hb5 c0 c1 c2 c3 hA5
  go_wp2_with fail
  rw [E1.out, E2.out]
  refine (HREL.out g w5 HA5.out (by omega) (by omega)).mono ?_
  rintro e w6 ⟨g6, rfl, hg, hW, hb6⟩
  have HB6 := Lib.hid (HB5.out.trans (hb6.mono HB5.out.size))
  have HFR : Hid (Fresh 42 w6 w.heap.size (some ⟨g6, 0, none⟩) n n (putL (putL zs s N V) (s + N) (L - N) (fWord (L - N)))) := by
    have := Fresh.of hW (Nat.le_trans HB5.out.size hg) (by rw [HZ3.out]; exact hn)
    rw [HZ3.out] at this
    exact this
  clear hg hW hb6
  go_wp2
  go_ret2
  exact HDONE.out (by omega) _ _ _ HB6.out (by rw [if_neg (by omega)]; exact HFR.out)
theorem Take_any (A : Option Addr) (n c : Nat) (a r b t : Int) (f : Bool) (zs : List Int) (w : World) (hn : n ≤ maxLen) (hnc : n ≤ c) (ha : Arr .u64 w w.heap.size A n zs) :
    Calls Try.prog 11 #[.slice A n c, .int .i64 a, .agg #[.int .i64 r, .int .i64 b, .int .i64 t, .bool f]] w (TakeP zs a r b t f w) := by
  by_cases h : hFault r b t f = 0
  · cases f
    · by_cases he : arErr zs = 0
      · cases hf : freeStart zs a
        · exact take_none A n c a r b t zs w hn hnc ha h he hf
        · obtain ⟨s, rfl, _, _⟩ := freeStart_iff.1 hf
          obtain ⟨N, hN⟩ := Int.eq_ofNat_of_zero_le (by have := hFault_ok h; omega : 0 ≤ 1 + r + b)
          rcases Nat.lt_trichotomy (sLong (nth zs s)) N with h1 | h1 | h1
          · exact take_full A n c s _ N r b t zs w hn hnc ha h he hf rfl hN (by omega)
          · exact take_all A n c s _ N r b t zs w hn hnc ha h he hf rfl hN h1
          · exact take_part A n c s _ N r b t zs w hn hnc ha h he hf rfl hN h1
      · exact take_bad A n c a r b t zs w hn hnc ha h he
    · exact take_free A n c a r b t zs w h
  · exact take_head A n c a r b t f zs w h
end Go.Proofs.Ytggjgcnmkkoheaa
