/-
  Parts of the proof of CarrySame: Gap.
-/
import Derived.StillTailTactics
import Derived.IntWalk
import Derived.Test.YtjefbekdjgmmbaaCarrySameAf
import Derived.Test.YtjefbekdjgmmbaaCarrySameAh
namespace Go.Proofs.Ytjefbekdjgmmbaa
open Go.RowKit
theorem runInfo : (Try.prog.info? 64).map (fun i => (i.zero, i.size, i.bytes)) = some (some (.agg #[.int .i64 0, .int .i64 0]), 2, 16) := by kernel_rfl
/-- What gap.read answers. -/
def GReadP (zs : List Int) (w : World) (e : Ending) (w' : World) : Prop := ∃ A m c, e = .returned (.tuple #[.slice A m c, .int .i64 (arErr zs)]) ∧ Below w.heap.size w w' ∧
  ((arErr zs ≠ 0 ∧ m = 0) ∨ (arErr zs = 0 ∧ m = (begins zs 0).length ∧ m ≤ c ∧ ArrG spotC 5 w' w'.heap.size A m (spList zs)))
set_option maxHeartbeats 400000 in
theorem gRead_any (A : Option Addr) (n c : Nat) (zs : List Int) (w : World) (hn : n ≤ maxLen) (hnc : n ≤ c) (ha : Arr .u64 w w.heap.size A n zs) :
    Calls Try.prog 62 #[.slice A n c] w (GReadP zs w) := by
  have HC := Lib.hid (Check_any A n c zs w hn hnc ha)
  by_cases h : arErr zs = 0
  · have hs := (arErr_zero h).1
    have hl : (spList zs).length = (begins zs 0).length := by rw [spList_ok hs]; simp
    have HS := Lib.hid (fun w ha => Spots_any A n c zs w hn ha)
    rw [h] at HC
    unfold SpotsP at HS
    rw [hs, hl] at HS
    have H := Lib.hid h
    clear h hs hl hn hnc
    go_enter Try.func62, Try.ntmps62
    go_wp2_with fail
    refine HC.out.mono ?_
    rintro e w1 ⟨rfl, hb1⟩
    have HA := Lib.hid ((ha.below hb1 (Nat.le_refl _)).more hb1.size)
    have HB1 := Lib.hid hb1
    clear hb1 ha
    go_wp2_with fail
    refine (HS.out _ HA.out).mono ?_
    rintro e w2 ⟨A2, c2, rfl, hb2, hc2, hA2, _⟩
    have HB2 := Lib.hid (HB1.out.trans (hb2.mono HB1.out.size))
    have HX := Lib.hid hA2
    have HC2 := Lib.hid hc2
    clear hb2 hA2 hc2
    go_wp2
    go_ret2
    exact ⟨A2, _, c2, by rw [H.out]; rfl, HB2.out, .inr ⟨H.out, rfl, HC2.out, HX.out⟩⟩
  · have hb : (arErr zs != 0) = true := by simpa using h
    have H := Lib.hid h
    unfold GReadP
    clear h ha hn hnc
    generalize arErr zs = E at *
    go_enter Try.func62, Try.ntmps62
    go_wp2_with fail
    refine HC.out.mono ?_
    rintro e w1 ⟨rfl, hb1⟩
    have HB1 := Lib.hid hb1
    clear hb1
    go_wp2
    go_ret2
    exact ⟨none, 0, 0, rfl, HB1.out, .inl ⟨H.out, rfl⟩⟩
/-- What extend answers. -/
def ExtP (l : List (Int × Int)) (r : Int × Int) (base : Nat) (w : World) (e : Ending) (w' : World) : Prop := ∃ v, e = .returned v ∧ OwnG runC 2 64 w' base v (ext l r) ∧ Below base w w'
set_option maxHeartbeats 1000000 in
set_option maxRecDepth 8000 in
theorem extend_any (v : Value) (l : List (Int × Int)) (x y : Int) (base : Nat) (w : World) (hO : OwnG runC 2 64 w base v l) (hb : base ≤ w.heap.size) (hl : l.length ≤ 300) (hy : 0 ≤ y ∧ y ≤ 1000)
    (hlast : 0 < l.length → 0 ≤ (nthG l (l.length - 1)).1 ∧ (nthG l (l.length - 1)).1 ≤ 1000 ∧ 0 ≤ (nthG l (l.length - 1)).2 ∧ (nthG l (l.length - 1)).2 ≤ 1000) :
    Calls Try.prog 64 #[v, .agg #[.int .i64 x, .int .i64 y]] w (ExtP l (x, y) base w) := by
  have bx := Box.new w 64 #[.int .i64 x, .int .i64 y]
  have g0 : (w.alloc (.cells #[.int .i64 x, .int .i64 y] 64)).cell? ⟨w.heap.size, 0, none⟩ = some (.int .i64 x) := bx.cell 0
  have g1 : (w.alloc (.cells #[.int .i64 x, .int .i64 y] 64)).cell? ⟨w.heap.size, 1, none⟩ = some (.int .i64 y) := bx.cell 1
  have hs1 : (w.alloc (.cells #[.int .i64 x, .int .i64 y] 64)).heap.size = w.heap.size + 1 := by simp
  have bw := (Below.refl w.heap.size w).alloc (Nat.le_refl _) (.cells #[.int .i64 x, .int .i64 y] 64)
  have hO1 := hO.below bw
  have hbb : Below base w (w.alloc (.cells #[.int .i64 x, .int .i64 y] 64)) := bw.mono hb
  have happ : ∀ nq, ∃ v' w', Sem.run Try.prog (Builtin.append_ #[59, 59] 59 #[v, .slice (some ⟨((w.alloc (.cells #[.int .i64 x, .int .i64 y] 64)).drewN nq).heap.size, 0, none⟩) 1 1]) (((w.alloc (.cells #[.int .i64 x, .int .i64 y] 64)).drewN nq).alloc (.cells (runC (x, y)).toArray 64)) = .ok v' w' ∧ OwnG runC 2 64 w' base v' (l ++ [(x, y)]) ∧ Below base w w' := by
    intro nq
    obtain ⟨v', w', hrun, hO', hB'⟩ := (hO1.drewN nq).push (P := Try.prog) (t := 59) (ty := 59) runC_len runC_one (by omega) Try.underlying59 runInfo rfl (by omega) (x, y) (by omega) (show base ≤ (w.alloc _).heap.size by rw [hs1]; omega)
    exact ⟨v', w', hrun, hO', (below_drewN hbb nq).trans hB'⟩
  obtain ⟨A, c, rfl, hc, hA⟩ := hO.arr runC_len
  have HAPP := Lib.hid happ
  have HBB := Lib.hid hbb
  unfold ExtP
  rcases Nat.eq_zero_or_pos l.length with h0 | h0
  · have he : ext l (x, y) = l ++ [(x, y)] := by unfold ext; rw [if_pos (.inl h0)]
    rw [he]
    have hA0 : l = [] := List.eq_nil_of_length_eq_zero h0
    subst hA0
    clear hO hO1 hlast happ hA hbb bw bx hs1 hl h0 he
    simp only [List.length_nil] at *
    go_enter Try.func64, Try.ntmps64
    go_wp2
    generalize (w.alloc (.cells #[.int .i64 x, .int .i64 y] 64)) = w2 at *
    go_quiet (fail)
    obtain ⟨v', w', hrun, hO', hB'⟩ := HAPP.out nq
    have f0 : (w2.drewN nq).cell? ⟨w.heap.size, 0, none⟩ = some (.int .i64 x) := g0
    have f1 : (w2.drewN nq).cell? ⟨w.heap.size, 1, none⟩ = some (.int .i64 y) := g1
    have HR := Lib.hid hrun
    have HO := Lib.hid hO'
    have HB := Lib.hid hB'
    clear g0 g1 HAPP HBB hrun hO' hB'
    generalize w2.drewN nq = w3 at *
    go_wp2_with (at_builtin; refine wpList_append_run rfl (.tmp 27) (.tmp 29) 59 rfl rfl rfl HR.out ?_)
    go_ret
    exact ⟨_, rfl, HO.out, HB.out⟩
  · have hla := hlast h0
    obtain ⟨q, hq⟩ : ∃ q, l.length = q + 1 := ⟨l.length - 1, by omega⟩
    obtain ⟨g, cap, hv, hcap, hg, hglt, hcells, hset⟩ := hO1.form runC_len h0
    injection hv with hv1 hv2 hv3
    subst hv1 hv3
    clear hv2
    obtain ⟨hc0, _⟩ := hcells q (by omega) 0 (by omega)
    obtain ⟨hc1, hf1⟩ := hcells q (by omega) 1 (by omega)
    have k0 : (w.alloc (.cells #[.int .i64 x, .int .i64 y] 64)).cell? ⟨g, q * 2, none⟩ = some (.int .i64 (nthG l q).1) := hc0
    have k1 : (w.alloc (.cells #[.int .i64 x, .int .i64 y] 64)).cell? ⟨g, q * 2 + 1, none⟩ = some (.int .i64 (nthG l q).2) := hc1
    have HS := Lib.hid (fun u => hset q 1 ((nthG l q).1, (nthG l q).2 + u) (.int .i64 ((nthG l q).2 + u)) (by omega) (by omega) rfl)
    have he : ext l (x, y) = if (nthG l q).1 + (nthG l q).2 = x then l.set q ((nthG l q).1, (nthG l q).2 + y) else l ++ [(x, y)] := by
      unfold ext
      rw [show l.length - 1 = q by omega]
      by_cases hh : (nthG l q).1 + (nthG l q).2 = x
      · rw [if_neg (by rintro (h1 | h1); omega; exact h1 hh), if_pos hh]
      · rw [if_pos (.inr hh), if_neg hh]
    rw [he]
    rw [show l.length - 1 = q by omega] at hla
    have hq300 : q ≤ 300 := by omega
    have HL := Lib.hid hq
    have hgw : g < w.heap.size := by
      rcases hO.rowLt g (by simp [Value.ownBlock]) with h
      exact h
    clear hO hO1 hlast happ hA hbb bw bx hs1 hl h0 he hcells hset hc0 hc1
    rw [hq]
    rw [hq] at HAPP HS hcap
    clear hq
    generalize (nthG l q).1 = X at *
    generalize (nthG l q).2 = Y at *
    have e1 : IntKind.i64.wrap (X + Y) = X + Y := IntWalk.i64_in _ (by omega)
    have e2 : IntKind.i64.wrap (Y + y) = Y + y := IntWalk.i64_in _ (by omega)
    have e3 : ((q : Int) < 0) = False := eq_false (by omega)
    have e4 : (q : Int) < ((q + 1 : Nat) : Int) := by omega
    have e5 : q < q + 1 := by omega
    have e6 : (q : Int) < (q : Int) + 1 := by omega
    by_cases hh : X + Y = x
    · rw [if_pos hh]
      have hne2 : (X + Y != x) = false := by simp [hh]
      have hne3 : ¬ (X + Y ≠ x) := by simp [hh]
      have HS1 := Lib.hid (HS.out y)
      have HB1 : Hid (Below base w ((w.alloc (.cells #[.int .i64 x, .int .i64 y] 64)).setCell ⟨g, q * 2 + 1, none⟩ (.int .i64 (Y + y)))) := Lib.hid (below_set HBB.out hg _ _)
      clear hh HAPP HS
      go_enter Try.func64, Try.ntmps64
      go_wp2
      generalize (w.alloc (.cells #[.int .i64 x, .int .i64 y] 64)) = w2 at *
      go_quiet (fail)
      have f1 : (w2.drewN nq).cell? ⟨w.heap.size, 1, none⟩ = some (.int .i64 y) := g1
      have f2 : (w2.drewN nq).cell? ⟨g, q * 2 + 1, none⟩ = some (.int .i64 Y) := k1
      have f3 : (w2.drewN nq).frozen? ⟨g, q * 2 + 1, none⟩ = false := hf1
      have HS2 : Hid (OwnG runC 2 64 ((w2.drewN nq).setCell ⟨g, q * 2 + 1, none⟩ (.int .i64 (Y + y))) base (.slice (some ⟨g, 0, none⟩) (q + 1) c) (l.set q (X, Y + y))) := HS1.out
      have HB2 : Hid (Below base w ((w2.drewN nq).setCell ⟨g, q * 2 + 1, none⟩ (.int .i64 (Y + y)))) := below_drewN HB1.out nq
      clear g0 g1 k0 k1 hf1 HS1 HB1 HBB
      generalize w2.drewN nq = w3 at *
      go_wp2_with fail
      go_still_tail 10, (by kernel_rfl)
      change wpList _ _ _ _ _ (w3.drewN 1)
      have h1 : (w3.drewN 1).cell? ⟨w.heap.size, 1, none⟩ = some (.int .i64 y) := f1
      have h2 : (w3.drewN 1).cell? ⟨g, q * 2 + 1, none⟩ = some (.int .i64 Y) := f2
      have h3 : (w3.drewN 1).frozen? ⟨g, q * 2 + 1, none⟩ = false := f3
      have HS3 : Hid (OwnG runC 2 64 ((w3.drewN 1).setCell ⟨g, q * 2 + 1, none⟩ (.int .i64 (Y + y))) base (.slice (some ⟨g, 0, none⟩) (q + 1) c) (l.set q (X, Y + y))) := HS2.out
      have HB3 : Hid (Below base w ((w3.drewN 1).setCell ⟨g, q * 2 + 1, none⟩ (.int .i64 (Y + y)))) := below_drewN HB2.out 1
      clear f1 f2 f3 HS2 HB2
      generalize w3.drewN 1 = w4 at *
      go_wp2
      go_ret
      exact ⟨_, rfl, HS3.out, HB3.out⟩
    · rw [if_neg hh]
      have hne : (X + Y == x) = false := by simpa using hh
      have hne2 : (X + Y != x) = true := by simpa using hh
      clear hh
      go_enter Try.func64, Try.ntmps64
      go_wp2
      generalize (w.alloc (.cells #[.int .i64 x, .int .i64 y] 64)) = w2 at *
      go_quiet (fail)
      obtain ⟨v', w', hrun, hO', hB'⟩ := HAPP.out nq
      have f0 : (w2.drewN nq).cell? ⟨w.heap.size, 0, none⟩ = some (.int .i64 x) := g0
      have f1 : (w2.drewN nq).cell? ⟨w.heap.size, 1, none⟩ = some (.int .i64 y) := g1
      have HR := Lib.hid hrun
      have HO := Lib.hid hO'
      have HB := Lib.hid hB'
      clear g0 g1 HAPP HBB hrun hO' hB' HS hf1 k0 k1
      generalize w2.drewN nq = w3 at *
      go_wp2_with (at_builtin; refine wpList_append_run rfl (.tmp 27) (.tmp 29) 59 rfl rfl rfl HR.out ?_)
      go_ret
      exact ⟨_, rfl, HO.out, HB.out⟩
/-- What Gaps answers. -/
def GapsP (zs : List Int) (w : World) (e : Ending) (w' : World) : Prop := ∃ A k c, e = .returned (.tuple #[.slice A k c, .int .i64 (arErr zs)]) ∧ Below w.heap.size w w' ∧ k ≤ c ∧
  ((arErr zs ≠ 0 ∧ k = 0) ∨ (arErr zs = 0 ∧ k = (gapsL zs).length ∧ ArrG runC 2 w' w'.heap.size A k (gapsL zs)))
set_option maxHeartbeats 400000 in
theorem gaps_bad (A : Option Addr) (n c : Nat) (zs : List Int) (w : World) (hn : n ≤ maxLen) (hnc : n ≤ c) (ha : Arr .u64 w w.heap.size A n zs) (h : arErr zs ≠ 0) :
    Calls Try.prog 28 #[.slice A n c] w (GapsP zs w) := by
  have HC := Lib.hid (gRead_any A n c zs w hn hnc ha)
  have hb : (arErr zs != 0) = true := by simpa using h
  unfold GapsP
  unfold GReadP at HC
  clear ha hn hnc
  generalize arErr zs = E at *
  go_enter Try.func28, Try.ntmps28
  go_wp2_with fail
  refine HC.out.mono ?_
  rintro e w1 ⟨A2, m, c2, rfl, hb1, hr⟩
  have HB1 := Lib.hid hb1
  clear hb1 hr HC
  have HH := Lib.hid h
  clear h
  go_wp2
  go_ret2
  exact ⟨none, 0, 0, rfl, HB1.out, Nat.le_refl _, .inl ⟨HH.out, rfl⟩⟩
set_option maxHeartbeats 2000000 in
set_option maxRecDepth 8000 in
theorem gaps_good (A : Option Addr) (n c : Nat) (zs : List Int) (w : World) (hn : n ≤ maxLen) (hnc : n ≤ c) (ha : Arr .u64 w w.heap.size A n zs) (h : arErr zs = 0) :
    Calls Try.prog 28 #[.slice A n c] w (GapsP zs w) := by
  have HC := Lib.hid (gRead_any A n c zs w hn hnc ha)
  obtain ⟨hs, _⟩ := arErr_zero h
  obtain ⟨h256, hfin⟩ := spErr_zero hs
  have hsp := spList_ok hs
  have hz := ha.2.1
  have hlen := begins_len (zs := zs) (a := 0)
  have HZ := Lib.hid hz
  have HSP := Lib.hid hsp
  have H := Lib.hid h
  unfold GReadP at HC
  rw [h] at HC
  clear ha hn hnc h hz hsp
  go_enter Try.func28, Try.ntmps28
  go_wp2_with fail
  refine HC.out.mono ?_
  rintro e w1 ⟨A2, m, c2, rfl, hb1, hr⟩
  rcases hr with ⟨hx, _⟩ | ⟨_, rfl, hmc, hA2⟩
  · exact absurd rfl hx
  have HB1 := Lib.hid hb1
  clear hb1 HC
  obtain ⟨m, hm⟩ : ∃ m, (begins zs 0).length = m := ⟨_, rfl⟩
  rw [hm] at hA2 hmc hlen ⊢
  go_wp2_with fail
  go_loopw [6, 21] (fun v i wr => ∃ (k a : Nat), k ≤ m ∧ i = .int .i64 k ∧ (begins zs 0).drop k = begins zs a ∧ fine zs a = true ∧ a ≤ zs.length ∧ OwnG runC 2 64 wr w1.heap.size v (runsTo (freeAt zs) a) ∧ Below w1.heap.size w1 wr) (fun _ i _ => m - (intOf i).toNat)
  case atStart => exact ⟨0, 0, Nat.zero_le _, rfl, rfl, hfin, Nat.zero_le _, OwnG.nil, Below.refl _ _⟩
  case round =>
    obtain ⟨k, a, hk, rfl, hd, hf, hale, hO, hB⟩ := hrel
    by_cases hlt : k < m
    · obtain ⟨e1, e2, e3, e4, e5⟩ := begins_drop hd hf (by omega)
      have hmem : a ∈ begins zs 0 := by rw [← e1, nthG_get _ _ (by omega)]; exact List.getElem_mem _
      obtain ⟨R, Bd, hR, hBd, q1, q2, q3, q4, q5, q6, q7, q8⟩ := spot_facts e3 HZ.out e2
      obtain ⟨b, off, rfl, hbB, c0, c1, c2, c3, c4⟩ := (hA2.below hB (Nat.le_refl _)).spot hlt
      have hnk : nthG (spList zs) k = spOf zs a := by rw [HSP.out, nthG_map _ _ _ (by omega), e1]
      rw [hnk] at c0 c1 c2 c3 c4
      unfold spOf at c0 c1 c2 c3 c4
      simp only [hR, hBd] at c0 c1 c2 c3 c4
      have hL : (a + sLong (nth zs a)) ≤ zs.length := (stepOk_iff.1 e3).2
      have HN1 := Lib.hid e4
      have HN2 := Lib.hid e5
      have HN3 := Lib.hid hL
      have hbw : b < wr.heap.size := Nat.lt_of_lt_of_le hbB hB.size
      cases hF : vF (nth zs a)
      · have HO2 := Lib.hid hO
        have HRn := Lib.hid (runsTo_live hmem hF)
        have HB := Lib.hid hB
        rw [hF] at c4
        generalize vT (nth zs a) = T at *
        have HBa := Lib.hid (HB.out.alloc HB.out.size (.cells #[.int .i64 a, .int .i64 R, .int .i64 Bd, .int .i64 T, .bool false] 80))
        have HOa := Lib.hid (HO2.out.below ((Below.refl _ wr).alloc (Nat.le_refl _) (.cells #[.int .i64 a, .int .i64 R, .int .i64 Bd, .int .i64 T, .bool false] 80)))
        clear hd hf hO hB e1 e2 e3 e4 e5 hmem q1 q2 q3 q4 q5 q6 q7 q8 hR hBd hnk hL hF hA2 hbw hfin hs
        go_wp2
        go_roundw
        case rel => exact ⟨k + 1, _, by omega, by go_num, HN1.out, HN2.out, HN3.out, by rw [HRn.out]; exact HOa.out, HBa.out⟩
        case measure => simp [intOf]; omega
      · rw [hF] at c4 q6
        obtain ⟨hR0, hT0⟩ := q5 hF
        subst hR0
        have HRn := Lib.hid (runsTo_free hmem hF)
        have hrk := runs_ok (freeAt zs) a
        have hrl := runsTo_len (f := freeAt zs) a
        have hbnd : 0 < (runsTo (freeAt zs) a).length → 0 ≤ (nthG (runsTo (freeAt zs) a) ((runsTo (freeAt zs) a).length - 1)).1 ∧ (nthG (runsTo (freeAt zs) a) ((runsTo (freeAt zs) a).length - 1)).1 ≤ 1000 ∧ 0 ≤ (nthG (runsTo (freeAt zs) a) ((runsTo (freeAt zs) a).length - 1)).2 ∧ (nthG (runsTo (freeAt zs) a) ((runsTo (freeAt zs) a).length - 1)).2 ≤ 1000 := by
          intro h0
          have := hrk.pos _ (by omega : (runsTo (freeAt zs) a).length - 1 < (runsTo (freeAt zs) a).length)
          omega
        have HLn := Lib.hid (fun w => lengthOk ((0 : Nat) : Int) Bd (vT (nth zs a)) true w q6)
        have HE := Lib.hid (fun v w' hO' hb' => extend_any v (runsTo (freeAt zs) a) a (1 + ((0 : Nat) : Int) + Bd) w1.heap.size w' hO' hb' (by omega) (by omega) hbnd)
        have hLL : (1 + ((0 : Nat) : Int) + Bd) = (sLong (nth zs a) : Int) := by omega
        rw [← hLL] at HRn
        have HO2 := Lib.hid hO
        have HB := Lib.hid hB
        clear hd hf hO hB e1 e2 e3 e4 e5 hmem q1 q2 q3 q4 q5 q7 q8 hR hBd hnk hL hF hA2 hbw hfin hs hrk hrl hbnd hT0 q6
        generalize hT : vT (nth zs a) = T at *
        clear hT
        have bx := Box.new wr 80 #[.int .i64 a, .int .i64 ((0 : Nat) : Int), .int .i64 Bd, .int .i64 T, .bool true]
        have bw := (Below.refl wr.heap.size wr).alloc (Nat.le_refl _) (.cells #[.int .i64 a, .int .i64 ((0 : Nat) : Int), .int .i64 Bd, .int .i64 T, .bool true] 80)
        have HX := Lib.hid bx
        have HW := Lib.hid bw
        clear bx bw
        go_wp2_with fail
        refine (HLn.out _).mono ?_
        rintro e w2 ⟨rfl, hb2⟩
        have bx := HX.out.below hb2 HX.out.lt
        have d0 : w2.cell? ⟨wr.heap.size, 0, none⟩ = some (.int .i64 a) := bx.cell 0
        have HB2 := Lib.hid (HW.out.trans (hb2.mono HW.out.size))
        have HOw := Lib.hid (HO2.out.below HB2.out)
        clear bx hb2 HX HW HO2 c0 c1 c2 c3 c4
        go_wp2_with fail
        refine (HE.out _ _ HOw.out (Nat.le_trans HB.out.size HB2.out.size)).mono ?_
        rintro e w3 ⟨v3, rfl, hO3, hB3⟩
        rw [HRn.out] at hO3
        have HO3 := Lib.hid hO3
        have HB3 := Lib.hid ((HB.out.trans (HB2.out.mono HB.out.size)).trans hB3)
        clear hO3 hB3 d0
        go_wp2
        go_roundw
        case rel => exact ⟨k + 1, _, by omega, by go_num, HN1.out, HN2.out, HN3.out, HO3.out, HB3.out⟩
        case measure => simp [intOf]; omega
    · obtain rfl : k = m := by omega
      have hae : zs.length ≤ a := begins_nil (by rw [← hd]; exact List.drop_eq_nil_of_le (by omega)) hf
      obtain rfl : a = zs.length := by omega
      obtain ⟨A3, c3, rfl, hc3, hA3⟩ := hO.arr runC_len
      have HX := Lib.hid hA3
      have HCc := Lib.hid hc3
      have HB := Lib.hid (HB1.out.trans (hB.mono HB1.out.size))
      clear hO hA3 hB hd hf hA2 hc3 hfin
      go_wp2
      go_ret2
      exact ⟨A3, _, c3, by rw [H.out]; rfl, HB.out, HCc.out, .inr ⟨H.out, rfl, HX.out⟩⟩
theorem Gaps_any (A : Option Addr) (n c : Nat) (zs : List Int) (w : World) (hn : n ≤ maxLen) (hnc : n ≤ c) (ha : Arr .u64 w w.heap.size A n zs) :
    Calls Try.prog 28 #[.slice A n c] w (GapsP zs w) := by
  by_cases h : arErr zs = 0
  · exact gaps_good A n c zs w hn hnc ha h
  · exact gaps_bad A n c zs w hn hnc ha h
end Go.Proofs.Ytjefbekdjgmmbaa
