/-
  The walk of GapJoins.
-/
import Derived.Test.YtggjgcnmkkoheaaJoinM
import Derived.Test.YtggjgcnmkkoheaaGapJoin
import Derived.Test.YtggjgcnmkkoheaaOrdersWalk
import Derived.Test.YtggjgcnmkkoheaaGood
import Derived.Test.YtggjgcnmkkoheaaLater
namespace Go.Proofs.Ytggjgcnmkkoheaa
open Go.RowKit

/-- Is 'k' in the run? -/
def inG (a l k : Int) : Bool := decide (a ≤ k ∧ k - a < l)
set_option maxHeartbeats 400000 in
theorem inG_any (a l k : Int) (w : World) (ha : 0 ≤ a) (ha2 : a ≤ 1000) (hk : 0 ≤ k) (hk2 : k ≤ 1000) :
    Calls Try.prog 35 #[.agg #[.int .i64 a, .int .i64 l], .int .i64 k] w fun e w' => e = .returned (.bool (inG a l k)) ∧ Below w.heap.size w w' := by
  by_cases h1 : a ≤ k
  · have HR : Hid (inG a l k = decide (k - a < l)) := by show _ = _; unfold inG; rw [Bool.eq_iff_iff]; simp [h1]
    go_enter Try.func35, Try.ntmps35
    go_wp2
    go_ret
    exact ⟨by rw [HR.out]; rfl, (Below.refl _ _).alloc (Nat.le_refl _) _⟩
  · have HR : Hid (inG a l k = false) := by show _ = _; unfold inG; simp; omega
    have d : decide (a ≤ k) = false := by simpa using h1
    go_enter Try.func35, Try.ntmps35
    go_wp2
    go_ret
    exact ⟨by rw [HR.out]; rfl, (Below.refl _ _).alloc (Nat.le_refl _) _⟩

set_option maxHeartbeats 400000 in
theorem inGK_any (a l k : Int) (b : Nat) (w : World) (ha : 0 ≤ a) (ha2 : a ≤ 1000) (hk : 0 ≤ k) (hk2 : k ≤ 1000) (hb : b < w.heap.size) (hc : w.cell? ⟨b, 0, none⟩ = some (.int .i64 k)) :
    Calls Try.prog 34 #[.agg #[.int .i64 a, .int .i64 l], .pointer (some ⟨b, 0, none⟩)] w fun e w' => e = .returned (.bool (inG a l k)) ∧ Below w.heap.size w w' := by
  have hc' : (w.alloc (.cells #[.int .i64 a, .int .i64 l] 38)).cell? ⟨b, 0, none⟩ = some (.int .i64 k) := (((Below.refl _ _).alloc (Nat.le_refl _) _).cell (p := ⟨b, 0, none⟩) hb).trans hc
  have hne : ¬ b = w.heap.size := by omega
  go_enter Try.func34, Try.ntmps34
  go_wp2_with fail
  refine (inG_any a l k _ ha ha2 hk hk2).mono ?_
  rintro e w1 ⟨rfl, hb1⟩
  have HB : Hid (Below w.heap.size w w1) := ((Below.refl _ _).alloc (Nat.le_refl _) _).trans (hb1.mono (by simp))
  clear hb1 hc hc'
  go_wp2
  go_ret
  exact ⟨rfl, HB.out⟩

theorem in_free {zs : List Int} {k : Nat} (hk : k < zs.length) : ((List.range (gapsL zs).length).any fun j => inG (nthG (gapsL zs) j).1 (nthG (gapsL zs) j).2 k) = freeAt zs k := by
  rw [Bool.eq_iff_iff, List.any_eq_true]
  constructor
  · rintro ⟨i, hi, h⟩
    unfold inG at h
    rw [decide_eq_true_eq] at h
    exact gap_free hk (List.mem_range.1 hi) h.1 (by omega)
  · intro h
    obtain ⟨i, hi, h1, h2⟩ := gap_of hk h
    exact ⟨i, List.mem_range.2 hi, by unfold inG; rw [decide_eq_true_eq]; exact ⟨h1, by omega⟩⟩
def cntF (zs : List Int) (k : Nat) : Nat := (((begins zs 0).take k).filter fun s => vF (nth zs s)).length
theorem cntF_next {zs : List Int} {k : Nat} (hk : k < (begins zs 0).length) : cntF zs (k + 1) = cntF zs k + if vF (nth zs (st zs k)) then 1 else 0 := by
  unfold cntF
  have e : (begins zs 0).take (k + 1) = (begins zs 0).take k ++ [st zs k] := by
    unfold st
    rw [nthG_get _ _ hk, List.take_succ_eq_append_getElem]
  rw [e, List.filter_append, List.length_append]
  cases h : vF (nth zs (st zs k)) <;> simp [h]
theorem cntF_le {zs : List Int} (k : Nat) : cntF zs k ≤ k := by
  unfold cntF
  refine Nat.le_trans (List.length_filter_le _ _) ?_
  simp; omega
theorem zeros_good (t : TypeId) (w : World) (n : Nat) : ∀ cs, cs = ((List.replicate n (0 : Int)).map (Value.int .i64)).toArray → Arr .i64 (w.alloc (.cells cs t)) (w.heap.size + 1) (some ⟨w.heap.size, 0, none⟩) n (List.replicate n 0) := by
  rintro cs rfl
  have h := (whole_new .i64 t w (List.replicate n 0) (by intro z hz; rw [(List.mem_replicate.1 hz).2]; decide)).arr (B := w.heap.size + 1) (by omega)
  simpa using h
theorem zeros_fine (n : Nat) : bad (List.replicate n 0) = false := by unfold bad; rw [List.any_eq_false]; intro x hx; rw [(List.mem_replicate.1 hx).2]; decide

set_option maxHeartbeats 1000000 in
set_option maxRecDepth 16000 in
theorem joins_bad (A : Option Addr) (n c : Nat) (zs : List Int) (w : World) (hn : n ≤ maxLen) (hnc : n ≤ c) (ha : Arr .u64 w w.heap.size A n zs) (h : arErr zs ≠ 0) :
    Calls Try.prog 5 #[.slice A n c] w fun e w' => e = .returned (.bool true) ∧ Below w.heap.size w w' := by
  have HH := Lib.hid (holes_any w)
  have H1 := Lib.hid (fun w ha => Gaps_any A n c zs w hn hnc ha)
  have H2 := Lib.hid (fun w ha => Join_any A n c zs w hn hnc ha)
  unfold GapsP at H1
  unfold JoinP at H2
  have hne : (arErr zs != 0) = true := by simpa using h
  generalize arErr zs = E at *
  have hee : (E == E) = true := by simp
  have HA := Lib.hid ha
  have HE := Lib.hid h
  clear ha h
  go_enter Try.func5, Try.ntmps5
  go_wp2_with fail
  refine HH.out.mono ?_
  rintro e w0 ⟨rfl, hb0⟩
  have HA0 := Lib.hid ((HA.out.below hb0 (Nat.le_refl _)).more hb0.size)
  have HB0 := Lib.hid hb0
  clear hb0 HA HH
  go_wp2_with fail
  refine (H1.out _ HA0.out).mono ?_
  rintro e w1 ⟨A1, k1, c1, rfl, hb1, _, hr⟩
  have hk1 : k1 = 0 := by
    rcases hr with ⟨_, h⟩ | ⟨hx, _⟩
    · exact h
    · exact absurd hx HE.out
  subst hk1
  have HA1 := Lib.hid ((HA0.out.below hb1 (Nat.le_refl _)).more hb1.size)
  have HB1 := Lib.hid (HB0.out.trans (hb1.mono HB0.out.size))
  clear hb1 HA0 HB0 H1 hr
  go_wp2_with fail
  refine (H2.out _ HA1.out).mono ?_
  rintro e w2 ⟨A2, k2, c2, rfl, hb2, hr⟩
  have hk2 : k2 = 0 := by
    rcases hr with ⟨_, _, h, _⟩ | ⟨hx, _⟩
    · exact h
    · exact absurd hx HE.out
  subst hk2
  have HB2 := Lib.hid (HB1.out.trans (hb2.mono HB1.out.size))
  clear hb2 HA1 HB1 H2 hr
  go_wp2
  go_ret
  exact ⟨rfl, HB2.out⟩

set_option maxHeartbeats 4000000 in
set_option maxRecDepth 16000 in
theorem joins_good (A : Option Addr) (n c : Nat) (zs : List Int) (w : World) (hn : n ≤ maxLen) (hnc : n ≤ c) (ha : Arr .u64 w w.heap.size A n zs) (h : arErr zs = 0) :
    Calls Try.prog 5 #[.slice A n c] w fun e w' => e = .returned (.bool true) ∧ Below w.heap.size w w' := by
  have hlen := ha.1
  obtain ⟨hl, hf, _⟩ := arErr_iff.1 h
  have hjf := join_fine h
  have hjs := (arErr_zero hjf).1
  have hjg := join_gaps hl hf
  have hjt := join_twice hl hf
  have hjc := join_count hl hf
  have hjl := joinL_len' zs
  have hjk : ∀ k, freeAt zs k = false → nth (joinL zs) k = nth zs k := fun k hk => joinL_keep hk
  have hin := fun k (hk : k < zs.length) => in_free hk
  have hgp := fun i (hi : i < (gapsL zs).length) => gap_pos hi
  have hgl := runsTo_len (f := freeAt zs) zs.length
  change (gapsL zs).length ≤ _ at hgl
  have hbl := begins_len (zs := joinL zs) (a := 0)
  have hspl : (spList (joinL zs)).length = (begins (joinL zs) 0).length := by rw [spList_ok hjs]; simp
  have HH := Lib.hid (holes_any w)
  have H1 := Lib.hid (fun w ha => Gaps_any A n c zs w hn hnc ha)
  have H2 := Lib.hid (fun w ha => Join_any A n c zs w hn hnc ha)
  have H3 := Lib.hid (fun A c w hnc ha => Gaps_any A n c (joinL zs) w hn hnc ha)
  have H4 := Lib.hid (fun A c w ha => Spots_any A n c (joinL zs) w hn ha)
  have H5 := Lib.hid (fun A c w hnc ha => Join_any A n c (joinL zs) w hn hnc ha)
  have H6 := Lib.hid (fun A c w hnc ha => Check_any A n c (joinL zs) w hn hnc ha)
  unfold GapsP at H1 H3
  unfold JoinP at H2 H5
  unfold SpotsP at H4
  rw [h] at H1 H2
  rw [hjf, hjg] at H3
  rw [hjs, hspl] at H4
  rw [hjf, hjt, hjl] at H5
  rw [hjf] at H6
  have HSP := Lib.hid (fun k (hk : k < (begins (joinL zs) 0).length) => (show nthG (spList (joinL zs)) k = spOf (joinL zs) (st (joinL zs) k) by rw [spList_ok hjs, nthG_map _ _ _ hk]; rfl))
  have HCN := Lib.hid (fun k (hk : k < (begins (joinL zs) 0).length) => cntF_next (zs := joinL zs) hk)
  have HCE : Hid (cntF (joinL zs) (begins (joinL zs) 0).length = (gapsL zs).length) := by
    show _ = _
    unfold cntF
    rw [List.take_length]; exact hjc
  have HCL := Lib.hid (fun k => cntF_le (zs := joinL zs) k)
  have HC0 : Hid (cntF (joinL zs) 0 = 0) := rfl
  have HJK := Lib.hid hjk
  have HIN := Lib.hid hin
  have HGP := Lib.hid hgp
  have HA := Lib.hid ha
  obtain ⟨ys, hys⟩ : ∃ ys, joinL zs = ys := ⟨_, rfl⟩
  obtain ⟨G, hG⟩ : ∃ G, gapsL zs = G := ⟨_, rfl⟩
  rw [hys] at H2 H3 H4 H5 H6 HSP HCN HCE HCL HC0 HJK hbl hjl
  rw [hG] at H1 H3 HCE HIN HGP hgl
  obtain ⟨m, hm⟩ : ∃ m, (begins ys 0).length = m := ⟨_, rfl⟩
  rw [hm] at H4 HSP HCN HCE hbl
  clear ha h hjf hjs hjg hjt hjc hjk hin hgp hspl hys hG hm hf
  go_enter Try.func5, Try.ntmps5
  go_wp2_with fail
  refine HH.out.mono ?_
  rintro e w0 ⟨rfl, hb0⟩
  have HA0 := Lib.hid ((HA.out.below hb0 (Nat.le_refl _)).more hb0.size)
  have HB0 := Lib.hid hb0
  clear hb0 HA HH
  go_wp2_with fail
  refine (H1.out _ HA0.out).mono ?_
  rintro e w1 ⟨A1, k1, c1, rfl, hb1, _, hr⟩
  have hr1 : k1 = G.length ∧ ArrG runC 2 w1 w1.heap.size A1 k1 G := by
    rcases hr with ⟨hx, _⟩ | ⟨_, h1, h2⟩
    · exact absurd rfl hx
    · exact ⟨h1, h2⟩
  obtain ⟨rfl, hL1⟩ := hr1
  have HL1 := Lib.hid hL1
  have HA1 := Lib.hid ((HA0.out.below hb1 (Nat.le_refl _)).more hb1.size)
  have HB1 := Lib.hid (HB0.out.trans (hb1.mono HB0.out.size))
  clear hb1 HA0 HB0 H1 hr hL1
  go_wp2_with fail
  refine (H2.out _ HA1.out).mono ?_
  rintro e w2 ⟨A2, k2, c2, rfl, hb2, hr⟩
  have hr2 : n = k2 ∧ Fresh 42 w2 w1.heap.size A2 k2 c2 ys := by
    rcases hr with ⟨hx, _⟩ | ⟨_, h1, h2⟩
    · exact absurd rfl hx
    · exact ⟨by rw [h1]; exact hlen.symm, h2⟩
  obtain ⟨rfl, hF2⟩ := hr2
  have hc2 := hF2.cap.1
  have HY2 := Lib.hid hF2.arr
  have HL2 := Lib.hid ((HL1.out.below hb2 (Nat.le_refl _)).more hb2.size)
  have HA2 := Lib.hid ((HA1.out.below hb2 (Nat.le_refl _)).more hb2.size)
  have HB2 := Lib.hid (HB1.out.trans (hb2.mono HB1.out.size))
  clear hb2 HA1 HB1 H2 hr hF2 HL1
  go_wp2_with fail
  refine (H3.out A2 c2 _ hc2 HY2.out).mono ?_
  rintro e w3 ⟨A3, k3, c3, rfl, hb3, _, hr⟩
  have hr3 : k3 = G.length ∧ ArrG runC 2 w3 w3.heap.size A3 k3 G := by
    rcases hr with ⟨hx, _⟩ | ⟨_, h1, h2⟩
    · exact absurd rfl hx
    · exact ⟨h1, h2⟩
  obtain ⟨rfl, hL3⟩ := hr3
  have HM3 := Lib.hid hL3
  have HY3 := Lib.hid ((HY2.out.below hb3 (Nat.le_refl _)).more hb3.size)
  have HL3 := Lib.hid ((HL2.out.below hb3 (Nat.le_refl _)).more hb3.size)
  have HA3 := Lib.hid ((HA2.out.below hb3 (Nat.le_refl _)).more hb3.size)
  have HB3 := Lib.hid (HB2.out.trans (hb3.mono HB2.out.size))
  clear hb3 HA2 HB2 H3 hr hL3 HL2 HY2
  go_wp2_with fail
  refine (H4.out A2 c2 _ HY3.out).mono ?_
  rintro e w4 ⟨A4, c4, rfl, hb4, _, hS4, _⟩
  have HS4 := Lib.hid hS4
  have HM4 := Lib.hid ((HM3.out.below hb4 (Nat.le_refl _)).more hb4.size)
  have HY4 := Lib.hid ((HY3.out.below hb4 (Nat.le_refl _)).more hb4.size)
  have HL4 := Lib.hid ((HL3.out.below hb4 (Nat.le_refl _)).more hb4.size)
  have HA4 := Lib.hid ((HA3.out.below hb4 (Nat.le_refl _)).more hb4.size)
  have HB4 := Lib.hid (HB3.out.trans (hb4.mono HB3.out.size))
  clear hb4 HA3 HB3 H4 hS4 HL3 HY3 HM3
  go_wp2_with fail
  refine (H5.out A2 c2 _ hc2 HY4.out).mono ?_
  rintro e w5 ⟨A5, k5, c5, rfl, hb5, hr⟩
  have hr5 : n = k5 ∧ Fresh 42 w5 w4.heap.size A5 k5 c5 ys := by
    rcases hr with ⟨hx, _⟩ | ⟨_, h1, h2⟩
    · exact absurd rfl hx
    · exact ⟨by rw [h1]; exact hlen.symm, h2⟩
  obtain ⟨rfl, hF5⟩ := hr5
  have HZ5 := Lib.hid hF5.arr
  have HS5 := Lib.hid ((HS4.out.below hb5 (Nat.le_refl _)).more hb5.size)
  have HM5 := Lib.hid ((HM4.out.below hb5 (Nat.le_refl _)).more hb5.size)
  have HY5 := Lib.hid ((HY4.out.below hb5 (Nat.le_refl _)).more hb5.size)
  have HL5 := Lib.hid ((HL4.out.below hb5 (Nat.le_refl _)).more hb5.size)
  have HA5 := Lib.hid ((HA4.out.below hb5 (Nat.le_refl _)).more hb5.size)
  have HB5 := Lib.hid (HB4.out.trans (hb5.mono HB4.out.size))
  clear hb5 HA4 HB4 H5 hF5 HL4 HY4 HM4 HS4 hr
  have bw := (Below.refl w5.heap.size w5).alloc (Nat.le_refl _) (.cells #[.int .i64 0, .int .i64 0, .int .i64 0] 26)
  have HBW := Lib.hid bw
  have HGO := Lib.hid (good_any (some ⟨w5.heap.size, 0, none⟩) 3 3 _ _ _ (by decide) (zeros_good 26 w5 3 #[.int .i64 0, .int .i64 0, .int .i64 0] rfl))
  rw [zeros_fine] at HGO
  clear bw
  go_wp2_with fail
  refine HGO.out.mono ?_
  rintro e w6 ⟨rfl, rfl⟩
  clear HGO
  have HR6 := Lib.hid (equalRuns A1 A3 G.length G.length c1 c3 w5.heap.size G G _ (HL5.out.below HBW.out (Nat.le_refl _)) (HM5.out.below HBW.out (Nat.le_refl _)) (by unfold maxLen; omega) (by unfold maxLen; omega))
  rw [show decide (G = G) = true by simp] at HR6
  have HW6 := Lib.hid (fun q => equalWords A2 A5 n n c2 c5 w5.heap.size ys ys _ ((HY5.out.below HBW.out (Nat.le_refl _)).drewN q) ((HZ5.out.below HBW.out (Nat.le_refl _)).drewN q) hn hn)
  rw [show decide (ys = ys) = true by simp] at HW6
  have HB6 := Lib.hid (HB5.out.trans (HBW.out.mono HB5.out.size))
  have HS6 := Lib.hid ((HS5.out.below HBW.out (Nat.le_refl _)).more HBW.out.size)
  have HY6 := Lib.hid ((HY5.out.below HBW.out (Nat.le_refl _)).more HBW.out.size)
  have HL6 := Lib.hid ((HL5.out.below HBW.out (Nat.le_refl _)).more HBW.out.size)
  have HA6 := Lib.hid ((HA5.out.below HBW.out (Nat.le_refl _)).more HBW.out.size)
  clear HA5 HB5 HL5 HY5 HM5 HS5 HZ5 HBW
  generalize (w5.alloc (.cells #[.int .i64 0, .int .i64 0, .int .i64 0] 26)) = w6 at *
  go_wp2_with fail
  refine HR6.out.mono ?_
  rintro e w7 ⟨rfl, q7, rfl⟩
  clear HR6
  have HW7 := Lib.hid (HW6.out q7)
  clear HW6
  go_wp2_with fail
  refine HW7.out.mono ?_
  rintro e w8 ⟨rfl, q8, rfl⟩
  clear HW7
  have HB8 := Lib.hid (below_drewN (below_drewN HB6.out q7) q8)
  have HS8 := Lib.hid ((HS6.out.drewN q7).drewN q8)
  have HY8 := Lib.hid ((HY6.out.drewN q7).drewN q8)
  have HL8 := Lib.hid ((HL6.out.drewN q7).drewN q8)
  have HA8 := Lib.hid ((HA6.out.drewN q7).drewN q8)
  have hsz8 : ((w6.drewN q7).drewN q8).heap.size = w6.heap.size := rfl
  rw [← hsz8] at HS8 HY8 HL8 HA8
  clear HB6 HS6 HY6 HL6 HA6 hsz8
  generalize (w6.drewN q7).drewN q8 = w8 at *
  have hnn : ((n : Int) != (n : Int)) = false := by simp
  have hm256 : m ≤ 256 := by omega
  have hG256 : G.length ≤ 256 := by omega
  have hn256 : n ≤ 256 := by omega
  go_wp2_with fail
  go_loopw [13, 88] (fun v i wr => ∃ k : Nat, k ≤ m ∧ i = .int .i64 k ∧ v = .int .i64 (cntF ys k : Nat) ∧ Below w8.heap.size w8 wr) (fun _ i _ => m - (intOf i).toNat)
  case atStart => exact ⟨0, Nat.zero_le _, rfl, by rw [HC0.out]; rfl, Below.refl _ _⟩
  case round =>
    obtain ⟨k, hk, rfl, rfl, hB⟩ := hrel
    by_cases hlt : k < m
    · obtain ⟨b, off, rfl, hbB, d0, d1, d2, d3, d4⟩ := (HS8.out.below hB (Nat.le_refl _)).spot hlt
      rw [HSP.out k hlt] at d0 d1 d2 d3 d4
      unfold spOf at d0 d1 d2 d3 d4
      dsimp only at d0 d1 d2 d3 d4
      have HN := Lib.hid (HCN.out k hlt)
      have hcl := HCL.out k
      generalize st ys k = s at *
      generalize vR (nth ys s) = R at *
      generalize vB (nth ys s) = Bd at *
      generalize vT (nth ys s) = T at *
      generalize vF (nth ys s) = F at *
      generalize cntF ys k = C at *
      have HBa := Lib.hid (hB.alloc hB.size (.cells #[.int .i64 (s : Int), .int .i64 R, .int .i64 Bd, .int .i64 T, .bool F] 47))
      clear hB
      cases F
      · have HN2 : Hid (cntF ys (k + 1) = C) := Lib.hid (by rw [HN.out]; simp)
        clear HN
        go_wp2
        go_roundw
        case rel => exact ⟨k + 1, by omega, by go_num, by rw [HN2.out], HBa.out⟩
        case measure => simp [intOf]; omega
      · have HN2 : Hid (cntF ys (k + 1) = C + 1) := Lib.hid (by rw [HN.out]; simp)
        clear HN
        go_wp2
        go_roundw
        case rel => exact ⟨k + 1, by omega, by go_num, by rw [HN2.out]; go_num, HBa.out⟩
        case measure => simp [intOf]; omega
    · obtain rfl : k = m := by omega
      have HB9 := Lib.hid (HB8.out.trans (hB.mono HB8.out.size))
      have HY9 := Lib.hid ((HY8.out.below hB (Nat.le_refl _)).more hB.size)
      have HL9 := Lib.hid ((HL8.out.below hB (Nat.le_refl _)).more hB.size)
      have HA9 := Lib.hid ((HA8.out.below hB (Nat.le_refl _)).more hB.size)
      rw [HCE.out]
      clear hB HB8 HS8 HY8 HL8 HA8 HSP HCN HCL HC0 HCE
      generalize wr = w9 at *
      go_wp2_with fail
      go_loopw [100] (fun i wr => ∃ j : Nat, j ≤ n ∧ i = .int .i64 j ∧ Below w9.heap.size w9 wr) (fun i _ => n - (intOf i).toNat)
      case atStart => exact ⟨0, Nat.zero_le _, rfl, Below.refl _ _⟩
      case round =>
        obtain ⟨j, hj, rfl, hB⟩ := hrel
        by_cases hjn : j < n
        · have hzl : j < zs.length := by omega
          obtain ⟨ba, oa, rfl, hba, hca⟩ := (HA9.out.below hB (Nat.le_refl _)).2.2 (by omega)
          obtain ⟨bb, ob, rfl, hbb, hcb⟩ := (HY9.out.below hB (Nat.le_refl _)).2.2 (by omega)
          have ca := hca j hjn
          have cb := hcb j hjn
          have bx := Box.new wr 3 #[.int .i64 j]
          have bw := (Below.refl wr.heap.size wr).alloc (Nat.le_refl _) (.cells #[.int .i64 j] 3)
          have hsz : (wr.alloc (.cells #[.int .i64 j] 3)).heap.size = wr.heap.size + 1 := by simp
          have lba : ba < wr.heap.size := Nat.lt_of_lt_of_le hba hB.size
          have lbb : bb < wr.heap.size := Nat.lt_of_lt_of_le hbb hB.size
          have y0 : (wr.alloc (.cells #[.int .i64 j] 3)).cell? ⟨wr.heap.size, 0, none⟩ = some (.int .i64 j) := bx.cell 0
          have ya := (bw.cell (p := ⟨ba, oa + j, none⟩) lba).trans ca
          have yb := (bw.cell (p := ⟨bb, ob + j, none⟩) lbb).trans cb
          have HCq : Hid (∀ p : Later (wr.alloc (.cells #[.int .i64 j] 3)), Calls Try.prog 33 #[.slice A1 G.length c1, .func (.func 34) #[] #[.pointer (some ⟨wr.heap.size, 0, none⟩)]] p.w fun e w' => e = .returned (.bool (freeAt zs j)) ∧ Below p.w.heap.size p.w w') := fun p => by
            rw [← HIN.out j hzl]
            refine containsRun A1 G.length c1 w9.heap.size 34 ⟨wr.heap.size, 0, none⟩ G _ _ (by unfold maxLen; omega) (Nat.le_trans hB.size (Nat.le_trans bw.size p.below.size)) (((HL9.out.below hB (Nat.le_refl _)).below bw hB.size).below p.below (Nat.le_trans hB.size bw.size)) (fun args wx => Try.call34 args wx) (fun wx hwx i hi => ?_)
            have hp := HGP.out i hi
            have hbx0 : Box p.w wr.heap.size 3 #[.int .i64 j] := bx.below p.below (by rw [hsz]; omega)
            have hbx : Box wx wr.heap.size 3 #[.int .i64 j] := hbx0.below hwx hbx0.lt
            exact inGK_any _ _ j wr.heap.size wx (by omega) (by omega) (by omega) (by omega) hbx.lt (hbx.cell 0)
          have HBx := Lib.hid (hB.trans (bw.mono hB.size))
          have HJ := Lib.hid (HJK.out j)
          have hjn2 : (j : Int) < (n : Int) := by omega
          have z0 := fun p => Later.cell (a := ⟨wr.heap.size, 0, none⟩) (by rw [hsz]; show wr.heap.size < _; omega) y0 p
          have za := fun p => Later.cell (a := ⟨ba, oa + j, none⟩) (by rw [hsz]; show ba < _; omega) ya p
          have zb := fun p => Later.cell (a := ⟨bb, ob + j, none⟩) (by rw [hsz]; show bb < _; omega) yb p
          clear bx bw hca hcb ca cb hB HB9 HL9 HA9 HY9 hba hbb HIN HGP HJK H6 y0 ya yb hsz lba lbb
          generalize nth zs j = X at *
          generalize nth ys j = Y at *
          generalize freeAt zs j = F at *
          cases F
          · have hXY : Y = X := HJ.out rfl
            subst hXY
            have hne : (Y != Y) = false := by simp
            clear HJ
            go_wp2_with fail
            generalize (wr.alloc (.cells #[.int .i64 j] 3)) = W at *
            refine wp_region_later (by kernel_rfl) (by kernel_rfl) ?_
            repeat (go_big_quiet_step ((go_at_call 33; exact Later.call (HCq.out _))))
            refine wpQuiet_nil ?_
            rintro _ ⟨p, rfl⟩
            clear z0 za zb
            go_wp2
            go_roundw
            case rel => exact ⟨j + 1, by omega, by go_num, HBx.out.trans (p.below.mono HBx.out.size)⟩
            case measure => simp [intOf]; omega
          · clear HJ
            go_wp2_with fail
            generalize (wr.alloc (.cells #[.int .i64 j] 3)) = W at *
            refine wp_region_later (by kernel_rfl) (by kernel_rfl) ?_
            repeat (go_big_quiet_step ((go_at_call 33; exact Later.call (HCq.out _))))
            refine wpQuiet_nil ?_
            rintro _ ⟨p, rfl⟩
            clear z0 za zb
            go_wp2
            go_roundw
            case rel => exact ⟨j + 1, by omega, by go_num, HBx.out.trans (p.below.mono HBx.out.size)⟩
            case measure => simp [intOf]; omega
        · obtain rfl : j = n := by omega
          have HBe := Lib.hid (HB9.out.trans (hB.mono HB9.out.size))
          have HYe := Lib.hid ((HY9.out.below hB (Nat.le_refl _)).more hB.size)
          have hgg : ((G.length : Int) == (G.length : Int)) = true := by simp
          clear hB HB9 HL9 HA9 HY9
          go_wp2_with fail
          refine (H6.out A2 c2 _ hc2 HYe.out).mono ?_
          rintro e w10 ⟨rfl, hb10⟩
          have HBf := Lib.hid (HBe.out.trans (hb10.mono HBe.out.size))
          clear hb10 HYe HBe
          go_wp2
          go_ret
          exact ⟨rfl, HBf.out⟩

theorem gapJoins_walk (A : Option Addr) (n c : Nat) (zs : List Int) (w : World) (hn : n ≤ maxLen) (hnc : n ≤ c) (ha : Arr .u64 w w.heap.size A n zs) :
    Calls Try.prog 5 #[.slice A n c] w fun e w' => e = .returned (.bool true) ∧ Below w.heap.size w w' := by
  by_cases h : arErr zs = 0
  · exact joins_good A n c zs w hn hnc ha h
  · exact joins_bad A n c zs w hn hnc ha h
end Go.Proofs.Ytggjgcnmkkoheaa
