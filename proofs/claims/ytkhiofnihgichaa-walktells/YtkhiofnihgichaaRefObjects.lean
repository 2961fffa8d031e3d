/-
  Contract of the reference's ObjectsOf, of an arena that is right.
-/
import Derived.Test.YtkhiofnihgichaaRefHeadAt
import Derived.Test.YtkhiofnihgichaaStepRun
import Derived.Test.YtkhiofnihgichaaWord
import Derived.IntWalk
import Derived.Deep.RegionLaw
namespace Go.Proofs.Ytkhiofnihgichaa
open Go.RowKit

theorem below_of_drewN {B : Nat} {a w : World} {n : Nat} (h : Below B (a.drewN n) w) : Below B a w := ⟨h.os, h.tape, h.output, h.size, h.block⟩
theorem Own.drewN {k : IntKind} {e : TypeId} {w : World} {base : Nat} {v : Value} {xs : List Int} (h : Own k e w base v xs) (q : Nat) : Own k e (w.drewN q) base v xs := h
theorem raw_info : (Try.prog.info? 32).map (fun i => (i.zero, i.size, i.bytes)) = some (some (.agg #[.int .i64 0, .slice none 0 0, .slice none 0 0, .bool false]), 4, 64) := by kernel_rfl
theorem nth_map_ (f : Int → Int) {l : List Int} {k : Nat} (h : k < l.length) : nth (l.map f) k = f (nth l k) := by
  rw [nth_get _ _ (by simpa using h), nth_get _ _ h, List.getElem_map]
theorem ix_wf {zs : List Int} (hl : zs.length ≤ 256) {v : Int} (h : (ixOf zs v).isSome = true) : (Lit.int .i64 ((ixOf zs v).getD 0)).wf = true := by
  by_cases h0 : v = 0
  · subst h0
    rw [ixOf_null]
    decide
  · obtain ⟨i, hi⟩ := Option.isSome_iff_exists.1 h
    obtain ⟨j, hj, rfl, _⟩ := ixOf_some h0 hi
    have := begins_len (zs := zs) (a := 0)
    rw [hi]
    exact wf_i64.2 (by simp; omega)
def startsTo (zs : List Int) (k : Nat) : List Int := ((begins zs 0).take k).map (fun s : Nat => (s : Int))
theorem startsTo_step {zs : List Int} {k : Nat} (hk : k < (begins zs 0).length) : startsTo zs (k + 1) = startsTo zs k ++ [(st zs k : Int)] := by
  unfold startsTo
  rw [take_st hk, List.map_append]; rfl
theorem startsTo_all {zs : List Int} : startsTo zs (begins zs 0).length = startsI zs := by unfold startsTo startsI; rw [List.take_length]

/-- What holds while ObjectsOf goes over the spots. -/
structure OofI (zs : List Int) (w5 : World) (k : Nat) (v : Value) (raws : List Raw) (wr : World) : Prop where
  own : OwnG rawC 4 32 wr w5.heap.size v raws
  len : raws.length = k
  obs : ∀ j, j < k → ObV wr w5.heap.size wr.heap.size (nthG raws j) (obOf zs (st zs j)) ∧ Off v.ownBlock (nthG raws j).ra (nthG raws j).rn ∧ Off v.ownBlock (nthG raws j).ba (nthG raws j).bn
  below : Below w5.heap.size w5 wr
theorem nthG_snoc_old {α : Type} [Inhabited α] (l : List α) (a : α) {j : Nat} (h : j < l.length) : nthG (l ++ [a]) j = nthG l j := by
  rw [nthG_get _ _ (by simp; omega), nthG_get _ _ h, List.getElem_append_left h]
theorem nthG_snoc_new {α : Type} [Inhabited α] (l : List α) (a : α) : nthG (l ++ [a]) l.length = a := by
  rw [nthG_get _ _ (by simp)]; simp
theorem OofI.step {zs : List Int} {w5 wr wx w9 : World} {k : Nat} {v v' : Value} {raws : List Raw} (h : OofI zs w5 k v raws wr) (hb : Below wr.heap.size wr wx) {r : Raw} (hr : ObV wx wr.heap.size wx.heap.size r (obOf zs (st zs k)))
    (hO : OwnG rawC 4 32 w9 w5.heap.size v' (raws ++ [r])) (hB : Below w5.heap.size wx w9) (hK : ∀ i, i < wx.heap.size → v.ownBlock ≠ some i → w9.heap[i]? = wx.heap[i]?) (hL : v'.ownBlock = v.ownBlock ∨ ∀ b, v'.ownBlock = some b → wx.heap.size ≤ b) :
    OofI zs w5 (k + 1) v' (raws ++ [r]) w9 := by
  have hlen := h.len
  refine ⟨hO, by simp [hlen], fun j hj => ?_, (h.below.trans (hb.mono h.below.size)).trans hB⟩
  have main : ∀ {q : Raw} {o : Ob}, ObV wx w5.heap.size wx.heap.size q o → Off v.ownBlock q.ra q.rn → Off v.ownBlock q.ba q.bn → ObV w9 w5.heap.size w9.heap.size q o ∧ Off v'.ownBlock q.ra q.rn ∧ Off v'.ownBlock q.ba q.bn := fun hV h1 h2 => by
    refine ⟨(hV.keepOff h1 h2 hK).more hB.size, ?_⟩
    rcases hL with hL | hL
    · rw [hL]; exact ⟨h1, h2⟩
    · exact ⟨hV.refs.off hL, hV.body.off hL⟩
  rcases Nat.lt_succ_iff_lt_or_eq.1 hj with hj | hj
  · rw [nthG_snoc_old _ _ (by omega)]
    obtain ⟨h1, h2, h3⟩ := h.obs j hj
    exact main ((h1.below hb (Nat.le_refl _)).more hb.size) h2 h3
  · subst hj
    rw [show nthG (raws ++ [r]) j = r by rw [← hlen]; exact nthG_snoc_new _ _]
    have hlt := h.own.rowLt
    exact main (hr.less h.below.size) (Off.of_high hr.rhigh hlt) (Off.of_high hr.bhigh hlt)

/-- What holds while the references of one object are gathered. -/
structure In3 (zs : List Int) (s : Nat) (wr : World) (B3 R Bd : Nat) (T : Int) (F : Bool) (k : Nat) (vr : Value) (wx : World) : Prop where
  sb : Box wx wr.heap.size 39 #[.int .i64 s, .int .i64 R, .int .i64 Bd, .int .i64 T, .bool F]
  ob : Box wx (wr.heap.size + 1) 32 #[.int .i64 T, vr, .slice none 0 0, .bool F]
  own : Own .i64 3 wx B3 vr (((refWords zs s).take k).map (fun x => (ixOf zs x).getD 0))
  below : Below wr.heap.size wr wx
  b3 : wr.heap.size + 2 ≤ B3
  b4 : B3 ≤ wx.heap.size
/-- What holds while the data words of one object are gathered. -/
structure In4 (zs : List Int) (s : Nat) (wr : World) (B4 R Bd : Nat) (T : Int) (F : Bool) (Ar : Option Addr) (nr cr : Nat) (refs : List Int) (k : Nat) (vb : Value) (wx : World) : Prop where
  sb : Box wx wr.heap.size 39 #[.int .i64 s, .int .i64 R, .int .i64 Bd, .int .i64 T, .bool F]
  ob : Box wx (wr.heap.size + 1) 32 #[.int .i64 T, .slice Ar nr cr, vb, .bool F]
  own : Own .u64 47 wx B4 vb ((bodyWords zs s).take k)
  arr : Arr .i64 wx B4 Ar nr refs
  high : High (wr.heap.size + 2) Ar nr
  below : Below wr.heap.size wr wx
  b3 : wr.heap.size + 2 ≤ B4
  b4 : B4 ≤ wx.heap.size
theorem Box.setOther {w : World} {g g' : Nat} {t : TypeId} {cs : Array Value} (h : Box w g t cs) (hg : g ≠ g') (j : Nat) (d : Value) : Box (w.setCell ⟨g', j, none⟩ d) g t cs := by
  show (w.heap.modify g' _)[g]? = _
  rw [Array.getElem?_modify, if_neg (by omega)]; exact h
theorem In3.push {zs : List Int} {s : Nat} {wr wx w8 : World} {B3 R Bd : Nat} {T : Int} {F : Bool} {k : Nat} {vr v' : Value} (h : In3 zs s wr B3 R Bd T F k vr wx) (hb : Below B3 wx w8) (hO : Own .i64 3 w8 B3 v' (((refWords zs s).take (k + 1)).map (fun x => (ixOf zs x).getD 0))) :
    In3 zs s wr B3 R Bd T F (k + 1) v' (w8.setCell ⟨wr.heap.size + 1, 1, none⟩ v') := by
  have := h.b3
  have := h.b4
  exact ⟨(h.sb.below hb (by omega)).setOther (by omega) _ _, (h.ob.below hb (by omega)).set 1 v', hO.setOther (by omega) _ _, below_set (h.below.trans (hb.mono (by omega))) (by omega) _ _, h.b3, by have := hb.size; simp [World.setCell]; omega⟩
theorem In4.push {zs : List Int} {s : Nat} {wr wx w8 : World} {B4 R Bd : Nat} {T : Int} {F : Bool} {Ar : Option Addr} {nr cr : Nat} {refs : List Int} {k : Nat} {vb v' : Value} (h : In4 zs s wr B4 R Bd T F Ar nr cr refs k vb wx) (hb : Below B4 wx w8) (hO : Own .u64 47 w8 B4 v' ((bodyWords zs s).take (k + 1))) :
    In4 zs s wr B4 R Bd T F Ar nr cr refs (k + 1) v' (w8.setCell ⟨wr.heap.size + 1, 2, none⟩ v') := by
  have := h.b3
  have := h.b4
  exact ⟨(h.sb.below hb (by omega)).setOther (by omega) _ _, (h.ob.below hb (by omega)).set 2 v', hO.setOther (by omega) _ _, (h.arr.below hb (Nat.le_refl _)).setOther h.high (by omega) _ _, h.high, below_set (h.below.trans (hb.mono (by omega))) (by omega) _ _, h.b3, by have := hb.size; simp [World.setCell]; omega⟩

set_option maxRecDepth 8000 in
set_option maxHeartbeats 40000000 in
theorem objectsOf_any (A : Option Addr) (n c : Nat) (zs : List Int) (w : World) (ha : Arr .u64 w w.heap.size A n zs) (h : arErr zs = 0) :
    Calls Try.prog 16 #[.slice A n c] w fun e w' => ∃ A' c' raws, e = .returned (.slice A' (begins zs 0).length c') ∧ (begins zs 0).length ≤ c' ∧ Below w.heap.size w w' ∧ ArrG rawC 4 w' w'.heap.size A' (begins zs 0).length raws ∧
      ∀ j, j < (begins zs 0).length → ObV w' w.heap.size w'.heap.size (nthG raws j) (obOf zs (st zs j)) := by
  obtain ⟨hsp, hrf⟩ := arErr_zero h
  obtain ⟨h256, _⟩ := spErr_zero hsp
  have hl := ha.1
  have hL := spList_ok hsp
  have hbl := begins_len (zs := zs) (a := 0)
  have hlen : (spList zs).length = (begins zs 0).length := by rw [hL]; simp
  obtain ⟨m, hm⟩ : ∃ m, (begins zs 0).length = m := ⟨_, rfl⟩
  rw [hm] at hlen hbl ⊢
  have hspot : ∀ k, k < m → nthG (spList zs) k = spOf zs (st zs k) ∧ st zs k < n ∧ stepOk zs (st zs k) = true := fun k hk => by
    have h1 := begins_mem (st_mem (zs := zs) (k := k) (by omega))
    exact ⟨by rw [hL, nthG_map _ _ _ (by omega)]; rfl, by omega, h1.2.2⟩
  have hgood : ∀ k, k < m → ∀ v ∈ refWords zs (st zs k), (ixOf zs v).isSome = true := fun k hk v hv => by
    unfold refsOk refsIn at hrf
    simp only [List.all_eq_true] at hrf
    exact hrf _ (st_mem (by omega)) v hv
  have HG := Lib.hid hgood
  have HS := Lib.hid hspot
  have HM := Lib.hid hm
  have HC := Lib.hid (SpotsOf_any A n c zs w (by unfold maxLen; omega) ha)
  have HLN := Lib.hid hlen
  have HA := Lib.hid ha
  have HSP := Lib.hid hsp
  clear ha h hsp hrf hL hspot hm hlen hgood
  go_enter Try.func16, Try.ntmps16
  go_wp2_with fail
  refine HC.out.mono ?_
  rintro e w1 ⟨A2, c2, rfl, b1, hc2, hA2, _⟩
  rw [HLN.out] at hA2 hc2 ⊢
  have HB1 := Lib.hid b1
  have HA2 := Lib.hid hA2
  clear b1 hA2 hc2 HC
  go_wp2_with fail
  go_loopw [5, 22] (fun v i wr => ∃ k : Nat, k ≤ m ∧ i = .int .i64 k ∧ Hid (Own .i64 3 wr w1.heap.size v (startsTo zs k)) ∧ Hid (Below w1.heap.size w1 wr)) (fun _ i _ => m - (intOf i).toNat)
  case atStart => exact ⟨0, by omega, rfl, Own.nil, Below.refl _ _⟩
  case round =>
    obtain ⟨k, hk, rfl, hO, hB⟩ := hrel
    by_cases hlt : k < m
    · obtain ⟨hs, hsn, _⟩ := HS.out k hlt
      obtain ⟨b, off, rfl, _, q0, q1, q2, q3, q4⟩ := (HA2.out.below hB.out (Nat.le_refl _)).spot hlt
      rw [hs] at q0 q1 q2 q3 q4
      unfold spOf at q0 q1 q2 q3 q4
      simp only at q0 q1 q2 q3 q4
      have hba := (Below.refl _ wr).alloc (Nat.le_refl _) (.cells #[.int .i64 (st zs k), .int .i64 (vR (nth zs (st zs k))), .int .i64 (vB (nth zs (st zs k))), .int .i64 (vT (nth zs (st zs k))), .bool (vF (nth zs (st zs k)))] 39)
      have hO1 := hO.out.below hba
      have hB1 := hB.out.trans (hba.mono hB.out.size)
      obtain ⟨v', w4, hrun, hO', hB'⟩ := hO1.push (P := Try.prog) (t := 30) (ty := 30) Try.underlying30 int_info (by omega) (x := (st zs k : Int)) (wf_i64.2 (by omega)) (by unfold startsTo; simp; omega) hB1.size
      rw [← startsTo_step (by rw [HM.out]; exact hlt)] at hO'
      rw [show (wr.alloc (.cells #[.int .i64 (st zs k), .int .i64 (vR (nth zs (st zs k))), .int .i64 (vB (nth zs (st zs k))), .int .i64 (vT (nth zs (st zs k))), .bool (vF (nth zs (st zs k)))] 39)).heap.size = wr.heap.size + 1 by simp] at hrun
      have HR := Lib.hid hrun
      have HO := Lib.hid hO'
      have HB := Lib.hid (hB1.trans hB')
      clear hba hO1 hB1 hrun hO' hB' hs hO hB
      generalize vR (nth zs (st zs k)) = R at *
      generalize vB (nth zs (st zs k)) = Bd at *
      generalize vT (nth zs (st zs k)) = T at *
      generalize vF (nth zs (st zs k)) = F at *
      generalize st zs k = s at *
      go_wp2_with (at_builtin; refine wpList_append_run rfl (.tmp 26) (.tmp 29) 30 rfl rfl rfl HR.out ?_)
      go_roundw
      case rel => exact ⟨k + 1, by omega, by go_num, HO.out, HB.out⟩
      case measure => simp [intOf]; omega
    · obtain rfl : k = m := by omega
      have hO1 := hO.out
      rw [← HM.out, startsTo_all] at hO1
      obtain ⟨Aa, ca, rfl, _, hAa⟩ := hO1.arr
      rw [starts_len, HM.out] at hAa ⊢
      have HAa := Lib.hid hAa
      have HA25 := Lib.hid (HA2.out.below hB.out (Nat.le_refl _))
      have HB5 := Lib.hid (HB1.out.trans (hB.out.mono HB1.out.size))
      have L15 := Lib.hid hB.out.size
      clear hO1 hAa hO hB HA2 hlt
      obtain ⟨w5, hw5⟩ : ∃ w5, w5 = wr := ⟨_, rfl⟩
      rw [← hw5] at HAa HA25 HB5 L15 ⊢
      clear hw5
      go_wp2_with fail
      go_loopw [8, 34] (fun v i wr => ∃ (k' : Nat) (raws : List Raw), k' ≤ k ∧ i = .int .i64 k' ∧ Hid (OofI zs w5 k' v raws wr)) (fun _ i _ => k - (intOf i).toNat)
      case atStart => exact ⟨0, [], by omega, rfl, ⟨OwnG.nil, rfl, fun j hj => absurd hj (by omega), Below.refl _ _⟩⟩
      case round =>
        obtain ⟨j, raws, hj, rfl, hI⟩ := hrel
        by_cases hlt : j < k
        · obtain ⟨hs, hsn, hst⟩ := HS.out j hlt
          have hgd := HG.out j hlt
          obtain ⟨R, Bd, hR, hBd, f1, f2, f3, f4, f5, f6, f7, f8⟩ := spot_facts hst HA.out.2.1 (by omega)
          have hrl := refWords_len hst
          have hbl' := bodyWords_len hst
          rw [hR] at hrl
          rw [hBd] at hbl'
          simp only [Int.toNat_natCast] at hrl hbl'
          have hbw : ∀ k', k' < Bd → nth (bodyWords zs (st zs j)) k' = nth zs (st zs j + 1 + R + k') := fun k' hk' => by
            rw [nth_get _ _ (by omega), nth_get _ _ (by omega)]
            unfold bodyWords
            simp [hR]
          have HRL := Lib.hid hrl
          have HBL := Lib.hid hbl'
          have HBW := Lib.hid hbw
          obtain ⟨b, off, rfl, _, q0, q1, q2, q3, q4⟩ := (HA25.out.below hI.out.below L15.out).spot hlt
          rw [hs] at q0 q1 q2 q3 q4
          unfold spOf at q0 q1 q2 q3 q4
          simp only at q0 q1 q2 q3 q4
          rw [hR] at q1
          rw [hBd] at q2
          clear hrl hbl' hbw hs hst f3 f4 f6 f7 f8
          generalize wr = W0 at q0 q1 q2 q3 q4 hI ⊢
          cases hf : vF (nth zs (st zs j))
          · rw [hf] at q4
            have HOB : Hid (obOf zs (st zs j) = (vT (nth zs (st zs j)), (refWords zs (st zs j)).map (fun x => (ixOf zs x).getD 0), bodyWords zs (st zs j), false)) := Lib.hid (by unfold obOf; rw [hf])
            have HNM := Lib.hid (fun wx hx => named_any A n c j zs wx hx HSP.out (by rw [HM.out]; exact hlt) hf)
            have hnl : (named zs (st zs j)).length = R := by unfold named; rw [List.length_map]; exact HRL.out
            rw [hnl] at HNM
            have hval : ∀ k', k' < R → nth (named zs (st zs j)) k' = nm (nth (refWords zs (st zs j)) k') ∧ (ixOf zs (nth (refWords zs (st zs j)) k')).isSome = true := fun k' hk' => by
              have h1 : k' < (refWords zs (st zs j)).length := by rw [HRL.out]; exact hk'
              refine ⟨nth_map_ nm h1, hgd _ (by rw [nth_get _ _ h1]; exact List.getElem_mem _)⟩
            have HVAL := Lib.hid hval
            clear hf f5 hgd hR hBd hnl hval
            obtain ⟨s, hse⟩ : ∃ s, st zs j = s := ⟨_, rfl⟩
            have hOB2 := HOB.out
            rw [hse] at q0 q3 hsn f1 HBL HBW HRL HNM HVAL hOB2
            obtain ⟨T, hT⟩ : ∃ T, vT (nth zs s) = T := ⟨_, rfl⟩
            rw [hT] at q3 hOB2
            rw [← hse] at hOB2
            have hOB3 : obOf zs (st zs j) = (T, (refWords zs s).map (fun x => (ixOf zs x).getD 0), bodyWords zs s, false) := by rw [hOB2, hse]
            have HOB := Lib.hid hOB3
            clear hse hT hOB2 hOB3
            have n1 := (Box.new W0 39 #[.int .i64 s, .int .i64 R, .int .i64 Bd, .int .i64 T, .bool false]).alloc (.cells #[.int .i64 T, .slice none 0 0, .slice none 0 0, .bool false] 32)
            have n2 := Box.new (W0.alloc (.cells #[.int .i64 s, .int .i64 R, .int .i64 Bd, .int .i64 T, .bool false] 39)) 32 #[.int .i64 T, .slice none 0 0, .slice none 0 0, .bool false]
            rw [show (W0.alloc (.cells #[.int .i64 s, .int .i64 R, .int .i64 Bd, .int .i64 T, .bool false] 39)).heap.size = W0.heap.size + 1 by simp] at n2
            have bb := ((Below.refl _ W0).alloc (Nat.le_refl _) (.cells #[.int .i64 s, .int .i64 R, .int .i64 Bd, .int .i64 T, .bool false] 39)).alloc (by simp) (.cells #[.int .i64 T, .slice none 0 0, .slice none 0 0, .bool false] 32)
            have HN1 := Lib.hid n1
            have HN2 := Lib.hid n2
            have HBB := Lib.hid bb
            clear n1 n2 bb
            have hw05 := HB5.out.trans (hI.out.below.mono HB5.out.size)
            have HN := Lib.hid (HNM.out _ (((HA.out.below (hw05.trans (HBB.out.mono hw05.size)) (Nat.le_refl _)).more (Nat.le_trans hw05.size HBB.out.size))))
            clear hw05 HNM
            go_wp2_with fail
            refine HN.out.mono ?_
            rintro e w3 ⟨A3, c3, rfl, b3, hA3, hH3⟩
            have hz : ((W0.alloc (.cells #[.int .i64 s, .int .i64 R, .int .i64 Bd, .int .i64 T, .bool false] 39)).alloc (.cells #[.int .i64 T, .slice none 0 0, .slice none 0 0, .bool false] 32)).heap.size = W0.heap.size + 2 := by simp
            rw [hz] at hH3 b3
            have h3 : In3 zs s W0 w3.heap.size R Bd T false 0 (.slice none 0 0) w3 :=
              ⟨HN1.out.below b3 (by omega), HN2.out.below b3 (by omega), by simp; exact Own.nil, HBB.out.trans (b3.mono (by omega)), by have := b3.size; rw [hz] at this; exact this, Nat.le_refl _⟩
            obtain ⟨B3, hB3⟩ : ∃ B, B = w3.heap.size := ⟨_, rfl⟩
            rw [← hB3] at h3 hA3
            have H3 := Lib.hid h3
            have HA3 := Lib.hid hA3
            have HH3 := Lib.hid hH3
            clear h3 hA3 hH3 b3 hz HN HN1 HN2 HBB hB3 q0 q1 q2 q3 q4
            go_wp2_with fail
            go_loopw [54] (fun i wx => ∃ (k' : Nat) (vr : Value), k' ≤ R ∧ i = .int .i64 k' ∧ Hid (In3 zs s W0 B3 R Bd T false k' vr wx) ∧ Hid (Arr .i64 wx B3 A3 R (named zs s))) (fun i _ => R - (intOf i).toNat)
            case atStart => exact ⟨0, _, by omega, rfl, H3, HA3⟩
            case round =>
              obtain ⟨k', vr, hk', rfl, hJ, hNA⟩ := hrel
              clear H3 HA3
              by_cases hlt' : k' < R
              · obtain ⟨e1, e2⟩ := HVAL.out k' hlt'
                obtain ⟨b6, o6, rfl, hb6, hcs⟩ := hNA.out.2.2 (by omega)
                have hc := hcs k' hlt'
                clear hcs
                have hall := HAa.out.below (hI.out.below.trans (hJ.out.below.mono hI.out.below.size)) (Nat.le_refl _)
                have HPL : Hid (Calls Try.prog 37 #[.slice Aa k ca, .int .i64 (nth (named zs s) k')] wr.drew fun e w' => e = .returned (.int .i64 ((ixOf zs (nth (refWords zs s) k')).getD 0)) ∧ wr.drew = w') :=
                  (place_any Aa k ca w5.heap.size (nth (named zs s) k') (startsI zs) wr.drew (by unfold maxLen; omega) hall).mono fun e w' h => by
                    obtain ⟨⟨r, rfl, hr⟩, h2⟩ := h
                    rw [e1] at hr
                    exact ⟨by rw [place_ix h256 e2 hr], h2⟩
                have hwv := ix_wf (zs := zs) h256 e2
                have htk : (refWords zs s).take (k' + 1) = (refWords zs s).take k' ++ [nth (refWords zs s) k'] := by
                  rw [nth_get _ _ (by have := HRL.out; omega), List.take_succ_eq_append_getElem]
                obtain ⟨v', w8, hrun, hO', hB'⟩ := (hJ.out.own.drewN 1).push (P := Try.prog) (t := 30) (ty := 30) Try.underlying30 int_info (by omega) hwv (by simp; omega) hJ.out.b4
                have hO'' : Own .i64 3 w8 B3 v' (((refWords zs s).take (k' + 1)).map (fun x => (ixOf zs x).getD 0)) := by rw [htk, List.map_append]; exact hO'
                obtain ⟨A8, c8, rfl, _, _⟩ := hO''.arr
                have hB'' := below_of_drewN hB'
                have HN := Lib.hid (hJ.out.push hB'' hO'')
                have l4 := hJ.out.b3
                have l5 := hJ.out.b4
                have HNN := Lib.hid ((hNA.out.below hB'' (Nat.le_refl _)).setOther HH3.out (g := W0.heap.size + 1) (by omega) 1 (.slice A8 (List.map (fun x => (ixOf zs x).getD 0) (List.take (k' + 1) (refWords zs s))).length c8))
                have o1 : wr.cell? ⟨W0.heap.size + 1, 1, none⟩ = some vr := hJ.out.ob.cell 1
                have hb8 := hJ.out.ob.below hB'' (by omega)
                have x8 : w8.cell? ⟨W0.heap.size + 1, 1, none⟩ = some vr := hb8.cell 1
                have y8 := hb8.soft 1
                have HR := Lib.hid hrun
                clear htk hrun hO' hO'' hB' hB'' hb8 hwv hall e1 e2 hb6
                generalize (List.map (fun x => (ixOf zs x).getD 0) (List.take (k' + 1) (refWords zs s))).length = L8 at *
                generalize (ixOf zs (nth (refWords zs s) k')).getD 0 = V at *
                generalize nth (named zs s) k' = X at *
                have ha8 := (Below.refl _ wr).alloc (Nat.le_refl _) (.cells #[.int .i64 V] 3)
                have o1' := (ha8.cell (p := ⟨W0.heap.size + 1, 1, none⟩) (show W0.heap.size + 1 < wr.heap.size by omega)).trans o1
                clear ha8
                go_wp2_with fail
                go_region_law (first
                  | (refine step_append_run rfl (.tmp 59) (.tmp 63) 30 rfl rfl rfl HR.out ?_)
                  | (go_simp; go_at_call 37; refine HPL.out.mono ?_; rintro e w9 ⟨rfl, rfl⟩))
                all_goals go_wp2
                all_goals go_roundw
                all_goals first | exact ⟨k' + 1, _, by omega, by go_num, HN, HNN⟩ | (simp [intOf]; omega)
              · obtain rfl : k' = R := by omega
                have hO3 := hJ.out.own
                rw [List.take_of_length_le (by have := HRL.out; omega)] at hO3
                obtain ⟨Ar, cr, rfl, hcr, hAr⟩ := hO3.arr
                rw [show (List.map (fun x => (ixOf zs x).getD 0) (refWords zs s)).length = k' by simp [HRL.out]] at hO3 hJ hcr hAr
                have h4 : In4 zs s W0 wr.heap.size k' Bd T false Ar k' cr ((refWords zs s).map (fun x => (ixOf zs x).getD 0)) 0 (.slice none 0 0) wr :=
                  ⟨hJ.out.sb, hJ.out.ob, by simp; exact Own.nil, hAr, hO3.high.less hJ.out.b3, hJ.out.below, Nat.le_trans hJ.out.b3 hJ.out.b4, Nat.le_refl _⟩
                have p2 : wr.cell? ⟨W0.heap.size, 2, none⟩ = some (.int .i64 Bd) := hJ.out.sb.cell 2
                obtain ⟨B4, hB4⟩ : ∃ B, B = wr.heap.size := ⟨_, rfl⟩
                rw [← hB4] at h4
                have H4 := Lib.hid h4
                obtain ⟨R, hRk⟩ : ∃ R, R = k' := ⟨_, rfl⟩
                clear h4 hB4 hAr hO3 hNA hJ hRk
                go_wp2_with fail
                clear p2
                go_loopw [70] (fun i wx => ∃ (k9 : Nat) (vb : Value), k9 ≤ Bd ∧ i = .int .i64 k9 ∧ Hid (In4 zs s W0 B4 k' Bd T false (Ar) (k') (cr) ((refWords zs s).map (fun x => (ixOf zs x).getD 0)) k9 vb wx)) (fun i _ => Bd - (intOf i).toNat)
                case atStart => exact ⟨0, _, by omega, rfl, H4⟩
                case round =>
                  obtain ⟨k9, vb, hk9, rfl, hJ⟩ := hrel
                  clear H4
                  by_cases hlt' : k9 < Bd
                  · obtain ⟨b6, o6, rfl, hb6, hcs⟩ := (HA.out.below (HB5.out.trans ((hI.out.below.trans (hJ.out.below.mono hI.out.below.size)).mono HB5.out.size)) (Nat.le_refl _)).2.2 (by omega)
                    have hc := hcs (s + 1 + k' + k9) (by omega)
                    clear hcs
                    have hbw : nth (bodyWords zs s) k9 = nth zs (s + 1 + k' + k9) := HBW.out k9 hlt'
                    rw [← hbw] at hc
                    have hwf := (HA.out).2.1 (nth zs (s + 1 + k' + k9)) (by rw [nth_get _ _ (by omega)]; exact List.getElem_mem _)
                    rw [← hbw] at hwf
                    clear hbw
                    have htk : (bodyWords zs s).take (k9 + 1) = (bodyWords zs s).take k9 ++ [nth (bodyWords zs s) k9] := by
                      rw [nth_get _ _ (by have := HBL.out; omega), List.take_succ_eq_append_getElem]
                    obtain ⟨v', w8, hrun, hO', hB'⟩ := (hJ.out.own.drewN 1).push (P := Try.prog) (t := 22) (ty := 22) Try.underlying22 u64_info (by omega) hwf (by simp; omega) hJ.out.b4
                    rw [← htk] at hO'
                    obtain ⟨A8, c8, rfl, _, _⟩ := hO'.arr
                    have hB'' := below_of_drewN hB'
                    have HN := Lib.hid (hJ.out.push hB'' hO')
                    have o2 : wr.cell? ⟨W0.heap.size + 1, 2, none⟩ = some vb := hJ.out.ob.cell 2
                    have p0 : wr.cell? ⟨W0.heap.size, 0, none⟩ = some (.int .i64 s) := hJ.out.sb.cell 0
                    have p1 : wr.cell? ⟨W0.heap.size, 1, none⟩ = some (.int .i64 k') := hJ.out.sb.cell 1
                    have hb8 := hJ.out.ob.below hB'' (by have := hJ.out.b3; omega)
                    have hs8 := hJ.out.sb.below hB'' (by have := hJ.out.b3; omega)
                    have x8 : w8.cell? ⟨W0.heap.size + 1, 2, none⟩ = some vb := hb8.cell 2
                    have y8 := hb8.soft 2
                    have B8 := Lib.hid hB''
                    have S8 := Lib.hid hs8
                    have l4 := hJ.out.b3
                    have l5 := hJ.out.b4
                    have l6 : b6 < W0.heap.size := by have := HB5.out.size; have := hI.out.below.size; omega
                    have HR := Lib.hid hrun
                    have C8 : Hid (w8.cell? ⟨b6, o6 + (s + 1 + k' + k9), none⟩ = some (.int .u64 (nth (bodyWords zs s) k9))) := Lib.hid ((hB''.cell (p := ⟨b6, o6 + (s + 1 + k' + k9), none⟩) (show b6 < B4 by omega)).trans hc)
                    clear htk hrun hO' hB' hB'' hb8 hs8 hwf hb6
                    generalize (List.take (k9 + 1) (bodyWords zs s)).length = L8 at *
                    generalize nth (bodyWords zs s) k9 = X at *
                    have g1 : IntKind.i64.wrap ((s : Int) + 1) = s + 1 := IntWalk.i64_in _ (by omega)
                    have g2 : IntKind.i64.wrap ((s : Int) + 1 + k') = s + 1 + k' := IntWalk.i64_in _ (by omega)
                    have g3 : IntKind.i64.wrap ((s : Int) + 1 + k' + k9) = s + 1 + k' + k9 := IntWalk.i64_in _ (by omega)
                    have g4 : (0 : Int) ≤ (s : Int) + 1 + k' + k9 := by omega
                    have g5 : (s : Int) + 1 + k' + k9 < n := by omega
                    have g6 : ((s : Int) + 1 + k' + k9).toNat = s + 1 + k' + k9 := by omega
                    have ha8 := (Below.refl _ wr).alloc (Nat.le_refl _) (.cells #[.int .u64 X] 47)
                    have o2' := (ha8.cell (p := ⟨W0.heap.size + 1, 2, none⟩) (show W0.heap.size + 1 < wr.heap.size by omega)).trans o2
                    clear ha8
                    go_wp2_with fail
                    go_region_law (first
                      | (refine step_append_run rfl (.tmp 74) (.tmp 87) 22 rfl rfl rfl HR.out ?_))
                    all_goals go_wp2
                    all_goals go_roundw
                    all_goals first | exact ⟨k9 + 1, _, by omega, by go_num, HN⟩ | (simp [intOf]; omega)
                  · obtain rfl : k9 = Bd := by omega
                    have hO4 := hJ.out.own
                    rw [List.take_of_length_le (by have := HBL.out; omega)] at hO4
                    obtain ⟨A9, c9, rfl, hc9, hA9⟩ := hO4.arr
                    rw [HBL.out] at hA9 hc9 hO4 hJ
                    have l3 := hJ.out.b3
                    have l4 := hJ.out.b4
                    have hVr : ObV wr W0.heap.size wr.heap.size ⟨T, Ar, k', cr, A9, k9, c9, false⟩ (obOf zs (st zs j)) := by
                      rw [HOB.out]
                      exact ⟨rfl, rfl, hcr, hc9, hJ.out.arr.more hJ.out.b4, hJ.out.high.less (by omega), hA9, hO4.high.less (by omega)⟩
                    obtain ⟨v', w9, hrun, hO', hB', hK', hLoc⟩ := (hI.out.own.below hJ.out.below).pushK (P := Try.prog) (t := 27) (ty := 27) rawC_len rawC_one (by omega) Try.underlying27 raw_info rfl (by omega) ⟨T, Ar, k', cr, A9, k9, c9, false⟩ (by have := hI.out.len; omega) (Nat.le_trans hI.out.below.size hJ.out.below.size)
                    have HN := Lib.hid (hI.out.step hJ.out.below hVr hO' hB' hK' hLoc)
                    have HR := Lib.hid hrun
                    have m0 : wr.cell? ⟨W0.heap.size + 1, 0, none⟩ = some (.int .i64 T) := hJ.out.ob.cell 0
                    have m1 : wr.cell? ⟨W0.heap.size + 1, 1, none⟩ = some (.slice (Ar) (k') (cr)) := hJ.out.ob.cell 1
                    have m2 : wr.cell? ⟨W0.heap.size + 1, 2, none⟩ = some (.slice A9 k9 c9) := hJ.out.ob.cell 2
                    have m3 : wr.cell? ⟨W0.heap.size + 1, 3, none⟩ = some (.bool false) := hJ.out.ob.cell 3
                    clear hO4 hA9 hVr hrun hO' hB' hK' hLoc hJ l3 l4
                    go_wp2_with (at_builtin; refine wpList_append_run rfl (.tmp 91) (.tmp 93) 27 rfl rfl rfl HR.out ?_)
                    go_roundw
                    case rel => exact ⟨j + 1, _, by omega, by go_num, HN⟩
                    case measure => simp [intOf]; omega

          · rw [hf] at q4
            obtain ⟨f5a, _⟩ := f5 hf
            have HOB : Hid (obOf zs (st zs j) = (vT (nth zs (st zs j)), [], bodyWords zs (st zs j), true)) := Lib.hid (by unfold obOf; rw [hf, List.eq_nil_of_length_eq_zero (HRL.out.trans f5a)]; rfl)
            have hcr : (0 : Nat) ≤ 0 := Nat.le_refl _
            clear hf f5 f5a hgd hR hBd HRL
            obtain ⟨s, hse⟩ : ∃ s, st zs j = s := ⟨_, rfl⟩
            rw [hse] at q0 q3 hsn f1 HBL HBW HOB
            have HSE := Lib.hid hse
            rw [← hse] at HOB
            rw [hse] at HOB
            obtain ⟨T, hT⟩ : ∃ T, vT (nth zs s) = T := ⟨_, rfl⟩
            rw [hT] at q3 HOB
            rw [← hse] at HOB
            have HOB2 : Hid (obOf zs (st zs j) = (T, [], bodyWords zs s, true)) := Lib.hid (by rw [HOB.out, hse])
            have HOB := HOB2
            clear hse hT HOB2
            have n1 := (Box.new W0 39 #[.int .i64 s, .int .i64 R, .int .i64 Bd, .int .i64 T, .bool true]).alloc (.cells #[.int .i64 T, .slice none 0 0, .slice none 0 0, .bool true] 32)
            have n2 := Box.new (W0.alloc (.cells #[.int .i64 s, .int .i64 R, .int .i64 Bd, .int .i64 T, .bool true] 39)) 32 #[.int .i64 T, .slice none 0 0, .slice none 0 0, .bool true]
            rw [show (W0.alloc (.cells #[.int .i64 s, .int .i64 R, .int .i64 Bd, .int .i64 T, .bool true] 39)).heap.size = W0.heap.size + 1 by simp] at n2
            have bb := ((Below.refl _ W0).alloc (Nat.le_refl _) (.cells #[.int .i64 s, .int .i64 R, .int .i64 Bd, .int .i64 T, .bool true] 39)).alloc (by simp) (.cells #[.int .i64 T, .slice none 0 0, .slice none 0 0, .bool true] 32)
            have h4 : In4 zs s W0 (W0.heap.size + 2) R Bd T true none 0 0 [] 0 (.slice none 0 0) ((W0.alloc (.cells #[.int .i64 s, .int .i64 R, .int .i64 Bd, .int .i64 T, .bool true] 39)).alloc (.cells #[.int .i64 T, .slice none 0 0, .slice none 0 0, .bool true] 32)) :=
              ⟨n1, n2, by simp; exact Own.nil, Arr.zero, High.zero, bb, by omega, by simp⟩
            have H4 := Lib.hid h4
            obtain ⟨B4, hB4⟩ : ∃ B, B = W0.heap.size + 2 := ⟨_, rfl⟩
            rw [← hB4] at H4
            clear n1 n2 bb h4 hB4
            go_wp2_with fail
            go_loopw [70] (fun i wx => ∃ (k' : Nat) (vb : Value), k' ≤ Bd ∧ i = .int .i64 k' ∧ Hid (In4 zs s W0 B4 R Bd T true (none) (0) (0) ([]) k' vb wx)) (fun i _ => Bd - (intOf i).toNat)
            case atStart => exact ⟨0, _, by omega, rfl, H4⟩
            case round =>
              obtain ⟨k', vb, hk', rfl, hJ⟩ := hrel
              clear H4
              by_cases hlt' : k' < Bd
              · obtain ⟨b6, o6, rfl, hb6, hcs⟩ := (HA.out.below (HB5.out.trans ((hI.out.below.trans (hJ.out.below.mono hI.out.below.size)).mono HB5.out.size)) (Nat.le_refl _)).2.2 (by omega)
                have hc := hcs (s + 1 + R + k') (by omega)
                clear hcs
                have hbw : nth (bodyWords zs s) k' = nth zs (s + 1 + R + k') := HBW.out k' hlt'
                rw [← hbw] at hc
                have hwf := (HA.out).2.1 (nth zs (s + 1 + R + k')) (by rw [nth_get _ _ (by omega)]; exact List.getElem_mem _)
                rw [← hbw] at hwf
                clear hbw
                have htk : (bodyWords zs s).take (k' + 1) = (bodyWords zs s).take k' ++ [nth (bodyWords zs s) k'] := by
                  rw [nth_get _ _ (by have := HBL.out; omega), List.take_succ_eq_append_getElem]
                obtain ⟨v', w8, hrun, hO', hB'⟩ := (hJ.out.own.drewN 1).push (P := Try.prog) (t := 22) (ty := 22) Try.underlying22 u64_info (by omega) hwf (by simp; omega) hJ.out.b4
                rw [← htk] at hO'
                obtain ⟨A8, c8, rfl, _, _⟩ := hO'.arr
                have hB'' := below_of_drewN hB'
                have HN := Lib.hid (hJ.out.push hB'' hO')
                have o2 : wr.cell? ⟨W0.heap.size + 1, 2, none⟩ = some vb := hJ.out.ob.cell 2
                have p0 : wr.cell? ⟨W0.heap.size, 0, none⟩ = some (.int .i64 s) := hJ.out.sb.cell 0
                have p1 : wr.cell? ⟨W0.heap.size, 1, none⟩ = some (.int .i64 R) := hJ.out.sb.cell 1
                have hb8 := hJ.out.ob.below hB'' (by have := hJ.out.b3; omega)
                have hs8 := hJ.out.sb.below hB'' (by have := hJ.out.b3; omega)
                have x8 : w8.cell? ⟨W0.heap.size + 1, 2, none⟩ = some vb := hb8.cell 2
                have y8 := hb8.soft 2
                have B8 := Lib.hid hB''
                have S8 := Lib.hid hs8
                have l4 := hJ.out.b3
                have l5 := hJ.out.b4
                have l6 : b6 < W0.heap.size := by have := HB5.out.size; have := hI.out.below.size; omega
                have HR := Lib.hid hrun
                have C8 : Hid (w8.cell? ⟨b6, o6 + (s + 1 + R + k'), none⟩ = some (.int .u64 (nth (bodyWords zs s) k'))) := Lib.hid ((hB''.cell (p := ⟨b6, o6 + (s + 1 + R + k'), none⟩) (show b6 < B4 by omega)).trans hc)
                clear htk hrun hO' hB' hB'' hb8 hs8 hwf hb6
                generalize (List.take (k' + 1) (bodyWords zs s)).length = L8 at *
                generalize nth (bodyWords zs s) k' = X at *
                have g1 : IntKind.i64.wrap ((s : Int) + 1) = s + 1 := IntWalk.i64_in _ (by omega)
                have g2 : IntKind.i64.wrap ((s : Int) + 1 + R) = s + 1 + R := IntWalk.i64_in _ (by omega)
                have g3 : IntKind.i64.wrap ((s : Int) + 1 + R + k') = s + 1 + R + k' := IntWalk.i64_in _ (by omega)
                have g4 : (0 : Int) ≤ (s : Int) + 1 + R + k' := by omega
                have g5 : (s : Int) + 1 + R + k' < n := by omega
                have g6 : ((s : Int) + 1 + R + k').toNat = s + 1 + R + k' := by omega
                have ha8 := (Below.refl _ wr).alloc (Nat.le_refl _) (.cells #[.int .u64 X] 47)
                have o2' := (ha8.cell (p := ⟨W0.heap.size + 1, 2, none⟩) (show W0.heap.size + 1 < wr.heap.size by omega)).trans o2
                clear ha8
                go_wp2_with fail
                go_region_law (first
                  | (refine step_append_run rfl (.tmp 74) (.tmp 87) 22 rfl rfl rfl HR.out ?_))
                all_goals go_wp2
                all_goals go_roundw
                all_goals first | exact ⟨k' + 1, _, by omega, by go_num, HN⟩ | (simp [intOf]; omega)
              · obtain rfl : k' = Bd := by omega
                have hO4 := hJ.out.own
                rw [List.take_of_length_le (by have := HBL.out; omega)] at hO4
                obtain ⟨A9, c9, rfl, hc9, hA9⟩ := hO4.arr
                rw [HBL.out] at hA9 hc9 hO4 hJ
                have l3 := hJ.out.b3
                have l4 := hJ.out.b4
                have hVr : ObV wr W0.heap.size wr.heap.size ⟨T, none, 0, 0, A9, k', c9, true⟩ (obOf zs (st zs j)) := by
                  rw [HOB.out]
                  exact ⟨rfl, rfl, hcr, hc9, hJ.out.arr.more hJ.out.b4, hJ.out.high.less (by omega), hA9, hO4.high.less (by omega)⟩
                obtain ⟨v', w9, hrun, hO', hB', hK', hLoc⟩ := (hI.out.own.below hJ.out.below).pushK (P := Try.prog) (t := 27) (ty := 27) rawC_len rawC_one (by omega) Try.underlying27 raw_info rfl (by omega) ⟨T, none, 0, 0, A9, k', c9, true⟩ (by have := hI.out.len; omega) (Nat.le_trans hI.out.below.size hJ.out.below.size)
                have HN := Lib.hid (hI.out.step hJ.out.below hVr hO' hB' hK' hLoc)
                have HR := Lib.hid hrun
                have m0 : wr.cell? ⟨W0.heap.size + 1, 0, none⟩ = some (.int .i64 T) := hJ.out.ob.cell 0
                have m1 : wr.cell? ⟨W0.heap.size + 1, 1, none⟩ = some (.slice (none) (0) (0)) := hJ.out.ob.cell 1
                have m2 : wr.cell? ⟨W0.heap.size + 1, 2, none⟩ = some (.slice A9 k' c9) := hJ.out.ob.cell 2
                have m3 : wr.cell? ⟨W0.heap.size + 1, 3, none⟩ = some (.bool true) := hJ.out.ob.cell 3
                clear hO4 hA9 hVr hrun hO' hB' hK' hLoc hJ l3 l4
                go_wp2_with (at_builtin; refine wpList_append_run rfl (.tmp 91) (.tmp 93) 27 rfl rfl rfl HR.out ?_)
                go_roundw
                case rel => exact ⟨j + 1, _, by omega, by go_num, HN⟩
                case measure => simp [intOf]; omega

        · obtain rfl : j = k := by omega
          have hO9 := hI.out.own
          obtain ⟨A9, c9, rfl, hc9, hA9⟩ := hO9.arr rawC_len
          rw [hI.out.len] at hc9 hA9 hI
          have HA9 := Lib.hid hA9
          have HOB : Hid (∀ i, i < j → ObV wr w.heap.size wr.heap.size (nthG raws i) (obOf zs (st zs i))) := fun i hi => ((hI.out.obs i hi).1).less HB5.out.size
          have HB9 := Lib.hid (HB5.out.trans (hI.out.below.mono HB5.out.size))
          have HC9 := Lib.hid hc9
          have HLR := Lib.hid hI.out.len
          clear hO9 hA9 hc9
          rw [HLR.out]
          go_wp2
          go_ret
          exact ⟨_, _, raws, rfl, HC9.out, HB9.out, HA9.out, HOB.out⟩
end Go.Proofs.Ytkhiofnihgichaa
