/-
  Contract of walk.Lay, for every list of descriptions that memory can hold.
-/
import Derived.Test.YtjefbekdjgmmbaaLayAdd
namespace Go.Proofs.Ytjefbekdjgmmbaa
open Go.RowKit

/-- The error of Lay. -/
def layErr (os : List Ob) (n : Int) : Int := if n < 0 ∨ 256 < n then 4 else if pErr os n.toNat = 0 then (if os.all (refsFit (pMap os n.toNat os.length)) then 0 else 5) else pErr os n.toNat
/-- All descriptions that are laid. -/
def layObs (os : List Ob) (n : Nat) : List Ob := os ++ restObs (n - offs os os.length)
def layWords (os : List Ob) (n : Nat) : List Int := (layObs os n).flatMap (obWords (pMap os n os.length))
theorem layErr_range {os : List Ob} {n : Int} (h : n < 0 ∨ 256 < n) : layErr os n = 4 := by simp [layErr, h]
theorem layErr_place {os : List Ob} {n : Nat} (h : n ≤ 256) (hp : pErr os n ≠ 0) : layErr os n = pErr os n := by
  unfold layErr
  rw [if_neg (by omega)]
  simp [hp]
theorem layErr_fit {os : List Ob} {n : Nat} (h : n ≤ 256) (hp : pErr os n = 0) (hf : os.all (refsFit (pMap os n os.length)) = true) : layErr os n = 0 := by
  unfold layErr
  rw [if_neg (by omega)]
  simp [hp, hf]
theorem layErr_none {os : List Ob} {n : Nat} (h : n ≤ 256) (hp : pErr os n = 0) (hf : os.all (refsFit (pMap os n os.length)) = false) : layErr os n = 5 := by
  unfold layErr
  rw [if_neg (by omega)]
  simp [hp, hf]
theorem restObs_len (k : Nat) : (restObs k).length ≤ 1 := by unfold restObs; split <;> simp
theorem rest_mem {k : Nat} {o : Ob} (h : o ∈ restObs k) : o = (0, [], List.replicate (k - 1) 0, true) := by
  unfold restObs at h
  split at h
  · cases h
  · simpa using h
theorem rest_fit {k : Nat} {o : Ob} (f : Int → Option Int) (h : o ∈ restObs k) : refsFit f o = true := by rw [rest_mem h]; rfl
theorem rest_fault {k : Nat} {o : Ob} (hk : k ≤ 256) (h : o ∈ restObs k) : oFault o = 0 := by
  rw [rest_mem h]
  show hFault (0 : Int) (((List.replicate (k - 1) (0 : Int)).length : Nat) : Int) 0 true = 0
  have h1 : within (((List.replicate (k - 1) (0 : Int)).length : Nat) : Int) 256 = true := within_true (by omega) (by simp; omega)
  rw [hFault_in (within_true (by omega) (by omega)) h1 (within_true (by omega) (by omega)) (fun _ => ⟨rfl, rfl⟩)]
  rw [if_neg (by simp; omega)]
theorem obWords_len (f : Int → Option Int) (o : Ob) : (obWords f o).length = oLong o := by simp [obWords, oLong]; omega
theorem flat_words_len (f : Int → Option Int) : ∀ l : List Ob, (l.flatMap (obWords f)).length = (l.map oLong).sum
  | [] => rfl
  | o :: l => by rw [List.flatMap_cons, List.length_append, obWords_len, flat_words_len f l]; simp
theorem nthG_app_left {α : Type} [Inhabited α] (l l' : List α) {j : Nat} (h : j < l.length) : nthG (l ++ l') j = nthG l j := by
  rw [nthG_get _ _ (by simp; omega), nthG_get _ _ h, List.getElem_append_left h]
theorem nthG_app_right {α : Type} [Inhabited α] (l l' : List α) {j : Nat} (h : l.length ≤ j) (h' : j < l.length + l'.length) : nthG (l ++ l') j = nthG l' (j - l.length) := by
  rw [nthG_get _ _ (by simp; omega), nthG_get _ _ (by omega), List.getElem_append_right h]

/-- What Lay answers. -/
def LayF (os : List Ob) (n : Int) (w : World) (e : Ending) (w' : World) : Prop := Below w.heap.size w w' ∧ ∃ A k c, e = .returned (.tuple #[.slice A k c, .int .i64 (layErr os n)]) ∧ k ≤ c ∧
  ((layErr os n ≠ 0 ∧ k = 0) ∨ (layErr os n = 0 ∧ k = (layWords os n.toNat).length ∧ Arr .u64 w' w'.heap.size A k (layWords os n.toNat))) ∧ SpareI .u64 47 w.heap.size w' A c
def LayP (os : List Ob) (n : Int) (w : World) (e : Ending) (w' : World) : Prop := Below w.heap.size w w' ∧ ∃ A k c, e = .returned (.tuple #[.slice A k c, .int .i64 (layErr os n)]) ∧ k ≤ c ∧
  ((layErr os n ≠ 0 ∧ k = 0) ∨ (layErr os n = 0 ∧ k = (layWords os n.toNat).length ∧ Arr .u64 w' w'.heap.size A k (layWords os n.toNat)))

/-- What holds while Lay goes over the descriptions. -/
structure LayI (os : List Ob) (n : Nat) (base : Nat) (w4 : World) (v : Value) (k : Nat) (u : Value) (wr : World) : Prop where
  own : OwnF .u64 47 wr base u (((layObs os n).take k).flatMap (obWords (pMap os n os.length)))
  grew : Grew w4 v wr u
  ok : ∀ j, j < k → refsFit (pMap os n os.length) (nthG (layObs os n) j) = true

theorem lay_range (A : Option Addr) (N c : Nat) (n : Int) (os : List Ob) (w : World) (hn : (Lit.int .i64 n).wf = true) (h : n < 0 ∨ 256 < n) :
    Calls Try.prog 47 #[.slice A N c, .int .i64 n] w (LayF os n w) := by
  have HE := Lib.hid (layErr_range (os := os) h)
  have HC := Lib.hid (new_bad n w hn h)
  clear hn h
  go_enter Try.func47, Try.ntmps47
  go_wp2_with fail
  refine HC.out.mono ?_
  rintro e w1 ⟨rfl, rfl⟩
  go_wp2
  go_ret2
  exact ⟨Below.refl _ _, _, _, _, by rw [HE.out]; rfl, Nat.le_refl _, .inl ⟨by rw [HE.out]; decide, rfl⟩, SpareI.nil⟩

set_option maxRecDepth 8000 in
set_option maxHeartbeats 4000000 in
theorem lay_in (A : Option Addr) (N c n B lo : Nat) (raws : List Raw) (os : List Ob) (w : World) (hn : n ≤ 256) (hN : N ≤ 140737488355328) (hB : B ≤ w.heap.size) (hv : ObsAt w lo B A N raws os) (hs : ∀ j, j < N → (nthG raws j).rn ≤ maxLen ∧ (nthG raws j).bn ≤ maxLen) :
    Calls Try.prog 47 #[.slice A N c, .int .i64 n] w (LayF os n w) := by
  have HNw := Lib.hid (new_ok n w (by omega) (by omega))
  rw [Int.toNat_natCast] at HNw
  have HV := Lib.hid hv
  have HS := Lib.hid hs
  clear hv hs
  go_enter Try.func47, Try.ntmps47
  go_wp2_with fail
  refine HNw.out.mono ?_
  rintro e w1 ⟨rfl, hW1, b1⟩
  have HB1 := Lib.hid b1
  have HW1 := Lib.hid hW1
  have HPL := Lib.hid (lplace_any A N c n B lo raws os w1 hn hN (Nat.le_trans hB b1.size) (HV.out.2.1.below b1 hB) HV.out.1 (fun j hj => (HV.out.2.2 j hj).below b1 hB) HS.out)
  clear b1 hW1 HNw
  go_wp2_with fail
  refine HPL.out.mono ?_
  rintro e w2 ⟨b2, hq⟩
  have HB2 := Lib.hid b2
  clear b2 HPL
  rcases hq with ⟨hne, rfl⟩ | ⟨hz, gm, rfl, hgm, hM⟩
  · have HE := Lib.hid (layErr_place hn hne)
    have hbz : (pErr os n != 0) = true := by simpa using hne
    have HZ := Lib.hid hne
    clear hne
    go_wp2
    go_ret2
    exact ⟨HB1.out.trans (HB2.out.mono HB1.out.size), _, _, _, by rw [HE.out]; rfl, Nat.le_refl _, .inl ⟨by rw [HE.out]; exact HZ.out, rfl⟩, SpareI.nil⟩
  · obtain ⟨hfz, htot⟩ := pErr_zero hz
    have hos := HV.out.1
    have hge := offs_ge (os := os) N (by omega)
    rw [hos] at htot
    have hN256 : N ≤ 256 := by omega
    have HPZ := Lib.hid hz
    have HFZ := Lib.hid hfz
    have HM := Lib.hid hM
    have HGM := Lib.hid hgm
    rw [hos]
    obtain ⟨tot, ht⟩ : ∃ t, offs os N = t := ⟨_, rfl⟩
    rw [ht] at htot hge ⊢
    have HT := Lib.hid ht
    obtain ⟨D, hD, hD2⟩ := run_upto (P := Try.prog) Try.underlying22 u64_size (some ⟨w.heap.size, 0, none⟩) n n 0 0 rfl (by omega)
    obtain rfl := hD2 w.heap.size 0 rfl
    have hW2 := HW1.out.below HB2.out HW1.out.lt
    have hO2 : OwnF .u64 47 w2 w.heap.size (.slice (some ⟨w.heap.size, 0, none⟩) 0 n) [] :=
      OwnF.of_whole hW2 (by simp) (by unfold maxLen; omega) (Nat.le_refl _)
    have HO2 := Lib.hid hO2
    have HR3 := Lib.hid (rest_any (n - tot) w2 (by omega))
    have e1 : (n : Int) - (tot : Int) = ((n - tot : Nat) : Int) := by omega
    clear hz hfz hM hgm ht hD2 hW2 hO2
    have e2 : IntKind.i64.wrap ((n : Int) - (tot : Int)) = ((n - tot : Nat) : Int) := by rw [e1]; exact IntWalk.i64_in _ (by omega)
    go_wp2_with fail
    refine HR3.out.mono ?_
    rintro e w3 ⟨A3, c3, raws3, rfl, b3, hc3, hr3⟩
    have HR3' := Lib.hid hr3
    have HB3 := Lib.hid b3
    have hlr := restObs_len (n - tot)
    obtain ⟨n3, hn3⟩ : ∃ x, (restObs (n - tot)).length = x := ⟨_, rfl⟩
    rw [hn3] at HR3' hlr ⊢
    have HN3 := Lib.hid hn3
    have hb13 := HB2.out.trans (b3.mono HB2.out.size)
    have hb03 : Below w.heap.size w w3 := HB1.out.trans (hb13.mono HB1.out.size)
    have a4 := (Below.refl _ w3).alloc (Nat.le_refl _) (.cells #[.slice A N c, .slice A3 n3 c3] 24)
    have bx4 := Box.new w3 24 #[.slice A N c, .slice A3 n3 c3]
    have HCC := Lib.hid (concat_any A A3 N n3 c c3 w3.heap.size w3.heap.size raws raws3 _ hN256 (by omega) (Nat.le_of_lt bx4.lt) (((HV.out.2.1.below hb03 hB).more (Nat.le_trans hB hb03.size)).below a4 (Nat.le_refl _)) (HR3'.out.2.1.below a4 (Nat.le_refl _)) bx4)
    have HB03 := Lib.hid hb03
    have HA4 := Lib.hid a4
    have z4 : (w3.alloc (.cells #[.slice A N c, .slice A3 n3 c3] 24)).heap.size = w3.heap.size + 1 := by simp
    have HZ4 := Lib.hid z4
    clear b3 hc3 hr3 hn3 hb13 hb03 a4 bx4 z4 HR3 e1 e2 hD
    go_wp2_with fail
    refine HCC.out.mono ?_
    rintro e w4 ⟨v4, rfl, hO4, b4⟩
    obtain ⟨A4, c4, rfl, hc4, hArr4⟩ := hO4.arr rawC_len
    have hH4 := hO4.high
    have hl1 := HV.out.2.1.1
    have hl3 := HR3'.out.2.1.1
    have hM4 : (raws ++ raws3).length = N + n3 := by simp [hl1, hl3]
    rw [hM4] at hArr4 hc4 hH4 ⊢
    rw [HZ4.out] at hH4
    have b24 : Below w2.heap.size w2 w4 := HB3.out.trans (((HA4.out.trans (b4.mono HA4.out.size))).mono HB3.out.size)
    have b34 : Below w3.heap.size w3 w4 := HA4.out.trans (b4.mono HA4.out.size)
    have b04 : Below w.heap.size w w4 := HB03.out.trans (b34.mono HB03.out.size)
    have hO24 := HO2.out.below b24 (Nat.le_refl _)
    have hg0 : w.heap.size < w1.heap.size := HW1.out.lt
    have hs12 := HB2.out.size
    have hs23 := HB3.out.size
    have hM24 := HM.out.below b24 HM.out.lt
    have hObs : ∀ j, j < N + n3 → ObV w4 0 w4.heap.size (nthG (raws ++ raws3) j) (nthG (layObs os n) j) ∧ Off (some w.heap.size) (nthG (raws ++ raws3) j).ra (nthG (raws ++ raws3) j).rn ∧ Off (some w.heap.size) (nthG (raws ++ raws3) j).ba (nthG (raws ++ raws3) j).bn ∧ oFault (nthG (layObs os n) j) = 0 := fun j hj => by
      unfold layObs
      rw [hos, HT.out]
      by_cases hjN : j < N
      · rw [nthG_app_left _ _ (by rw [hl1]; exact hjN), nthG_app_left _ _ (by rw [hos]; exact hjN)]
        have h1 := (HV.out.2.2 j hjN)
        have h2 := (h1.below b04 hB)
        exact ⟨(h2.more (Nat.le_trans hB b04.size)).less (Nat.zero_le _), h1.refs.off (fun b hb => by injection hb with hb; omega), h1.body.off (fun b hb => by injection hb with hb; omega), fault_zero HFZ.out j (by rw [hos]; exact hjN)⟩
      · rw [nthG_app_right _ _ (by rw [hl1]; omega) (by rw [hl1, hl3]; omega), nthG_app_right _ _ (by rw [hos]; omega) (by rw [hos, HN3.out]; omega), hl1, hos]
        have h1 := HR3'.out.2.2 (j - N) (by omega)
        exact ⟨((h1.below b34 (Nat.le_refl _)).more b34.size).less (Nat.zero_le _), Off.of_high h1.rhigh (fun b hb => by injection hb with hb; omega), Off.of_high h1.bhigh (fun b hb => by injection hb with hb; omega),
          rest_fault (k := n - tot) (by omega) (by rw [nthG_get _ _ (by rw [HN3.out]; omega)]; exact List.getElem_mem _)⟩
    have hOffA : Off (some w.heap.size) A4 (N + n3) := Off.of_high hH4 (fun b hb => by injection hb with hb; omega)
    have hLL : (layObs os n).length = N + n3 := by unfold layObs; rw [List.length_append, hos, HT.out, HN3.out]
    have hgne : (Value.slice (some ⟨w.heap.size, 0, none⟩) 0 n).ownBlock ≠ some gm := fun e => by
      have h1 : some w.heap.size = some gm := e
      injection h1 with h1
      have := HGM.out
      omega
    have HObs := Lib.hid hObs
    have HOA := Lib.hid hOffA
    have HArr := Lib.hid hArr4
    have HLL := Lib.hid hLL
    have HM4 := Lib.hid hM24
    have HGN := Lib.hid hgne
    have HB04 := Lib.hid b04
    have HC4 := Lib.hid hc4
    have hI : LayI os n w.heap.size w4 (.slice (some ⟨w.heap.size, 0, none⟩) 0 n) 0 (.slice (some ⟨w.heap.size, 0, none⟩) 0 n) w4 := ⟨by simpa using hO24, Grew.refl _ _, fun j hj => absurd hj (by omega)⟩
    have HI := Lib.hid hI
    clear hO4 hc4 hArr4 hH4 hl1 hl3 hM4 b24 b34 b04 hO24 hg0 hs12 hs23 hM24 hObs hOffA hLL hgne b4 hI HCC HO2 HM HGM HR3' HB3 HA4 HZ4 HB03 HW1
    obtain ⟨v0, hv0⟩ : ∃ v, (Value.slice (some ⟨w.heap.size, 0, none⟩) 0 n) = v := ⟨_, rfl⟩
    have HV0 := Lib.hid hv0
    go_wp2_with fail
    rw [hv0] at HI HGN
    clear hv0
    go_loopw [6, 40] (fun u i wr => ∃ k : Nat, k ≤ N + n3 ∧ i = .int .i64 k ∧ Hid (LayI os n w.heap.size w4 v0 k u wr)) (fun _ i _ => N + n3 - (intOf i).toNat)
    case atStart => exact ⟨0, by omega, rfl, HI⟩
    case round =>
      obtain ⟨k, hk, rfl, hJ⟩ := hrel
      rename_i u6
      clear HI
      have hown0 : v0.ownBlock = some w.heap.size := by rw [← HV0.out]; rfl
      by_cases hlt : k < N + n3
      · obtain ⟨hV4, o1, o2, hof⟩ := HObs.out k hlt
        rw [← hown0] at o1 o2
        obtain ⟨hVr, o1r, o2r⟩ := hV4.grew hJ.out.grew o1 o2 (Nat.le_refl _)
        obtain ⟨hArr, oAr⟩ := HArr.out.grew hJ.out.grew (by rw [hown0]; exact HOA.out) (Nat.le_refl _)
        obtain ⟨hMr, ogr⟩ := HM4.out.grew hJ.out.grew HGN.out
        obtain ⟨b, off, rfl, hb, x0, x1, x2, x3⟩ := hArr.raw hlt
        have hrow := hJ.out.own.own.rowLt
        have hlen : (((layObs os n).take k).flatMap (obWords (pMap os n os.length))).length ≤ 100000 := by
          rw [flat_words_len]
          have h1 := offs_le (os := layObs os n) k (by rw [HLL.out]; omega) (fun j hj => (HObs.out j (by omega)).2.2.2)
          unfold offs at h1
          omega
        have ba := (Below.refl _ wr).alloc (Nat.le_refl _) (.cells #[.int .i64 (nthG (raws ++ raws3) k).t, .slice (nthG (raws ++ raws3) k).ra (nthG (raws ++ raws3) k).rn (nthG (raws ++ raws3) k).rc, .slice (nthG (raws ++ raws3) k).ba (nthG (raws ++ raws3) k).bn (nthG (raws ++ raws3) k).bc, .bool (nthG (raws ++ raws3) k).f] 41)
        have HAD := Lib.hid (add_any u6 _ w.heap.size gm (os.length + 1) 0 w4.heap.size (pMap os n os.length) (nthG (raws ++ raws3) k) (nthG (layObs os n) k) _ (hJ.out.own.below ba (Nat.le_refl _)) (Nat.le_trans (Nat.le_trans HB04.out.size hJ.out.grew.size) ba.size) hlen hof (hVr.below ba hJ.out.grew.size) (Nat.le_trans hJ.out.grew.size ba.size) o1r o2r (hMr.below ba hMr.lt) ogr)
        have htk : (layObs os n).take (k + 1) = (layObs os n).take k ++ [nthG (layObs os n) k] := by
          rw [nthG_get _ _ (by rw [HLL.out]; exact hlt), List.take_succ_eq_append_getElem]
        have HTK := Lib.hid htk
        have HGA := Lib.hid (Grew.of_below ba u6)
        have HBW0 : Hid (∀ wx ux, Grew wr u6 wx ux → Below w.heap.size w wx) := Lib.hid fun wx ux hg => HB04.out.trans ((hJ.out.grew.trans hg).below HB04.out.size (fun b hb => by rw [hown0] at hb; injection hb with hb; omega))
        clear hV4 o1 o2 hof hVr o1r o2r hArr oAr hMr ogr hb hrow hlen ba htk
        generalize nthG (raws ++ raws3) k = r at *
        obtain ⟨t, ra, rn, rc, ba, bn, bc, fr⟩ := r
        simp only at x0 x1 x2 x3 HAD HGA
        obtain ⟨Au, Lu, cu, rfl⟩ : ∃ a l c, u6 = .slice a l c := by
          obtain ⟨a, c, h, _, _, _⟩ := hJ.out.own.arr
          exact ⟨_, _, _, h⟩
        go_wp2_with fail
        refine HAD.out.mono ?_
        rintro e w5 (⟨hfit, v', rfl, hO', hG'⟩ | ⟨hfit, rfl, v', hG'⟩)
        · obtain ⟨A5, c5, rfl, _, _, _⟩ := hO'.arr
          have hN : LayI os n w.heap.size w4 v0 (k + 1) (.slice A5 (List.flatMap (obWords (pMap os n os.length)) (List.take k (layObs os n)) ++ obWords (pMap os n os.length) (nthG (layObs os n) k)).length c5) w5 :=
            ⟨by rw [HTK.out, List.flatMap_append, List.flatMap_cons, List.flatMap_nil, List.append_nil]; exact hO', hJ.out.grew.trans (HGA.out.trans hG'), fun j hj => by
              rcases Nat.lt_succ_iff_lt_or_eq.1 hj with h | h
              · exact hJ.out.ok j h
              · rw [h]; exact hfit⟩
          have HN := Lib.hid hN
          clear hfit hO' hG' hN HAD x0 x1 x2 x3 hJ
          generalize (List.flatMap (obWords (pMap os n os.length)) (List.take k (layObs os n)) ++ obWords (pMap os n os.length) (nthG (layObs os n) k)).length = L5 at *
          go_wp2
          go_roundw
          case rel => exact ⟨k + 1, by omega, by go_num, HN⟩
          case measure => simp [intOf]; omega
        · have HE : Hid (layErr os n = 5) := Lib.hid (layErr_none hn HPZ.out (by
            rw [List.all_eq_false]
            have hkN : k < N := by
              rcases Nat.lt_or_ge k N with h | h
              · exact h
              · exfalso
                have h1 : refsFit (pMap os n os.length) (nthG (layObs os n) k) = true := by
                  unfold layObs
                  rw [nthG_app_right _ _ (by rw [hos]; exact h) (by rw [hos, HT.out, HN3.out]; exact hlt), hos, HT.out]
                  exact rest_fit _ (by rw [nthG_get _ _ (by rw [HN3.out]; omega)]; exact List.getElem_mem _)
                rw [h1] at hfit; cases hfit
            refine ⟨nthG os k, by rw [nthG_get _ _ (by rw [hos]; exact hkN)]; exact List.getElem_mem _, ?_⟩
            unfold layObs at hfit
            rw [nthG_app_left _ _ (by rw [hos]; exact hkN)] at hfit
            rw [hfit]; decide))
          have HB9 := Lib.hid (HBW0.out _ _ (HGA.out.trans hG'))
          clear hfit hG' HAD x0 x1 x2 x3
          go_wp2
          go_ret2
          exact ⟨HB9.out, _, _, _, by rw [HE.out]; rfl, Nat.le_refl _, .inl ⟨by rw [HE.out]; decide, rfl⟩, SpareI.nil⟩
      · obtain hke : k = N + n3 := by omega
        have HE : Hid (layErr os n = 0) := Lib.hid (layErr_fit hn HPZ.out (by
          rw [List.all_eq_true]
          intro x hx
          obtain ⟨i, hi, rfl⟩ := List.getElem_of_mem hx
          have h1 := hJ.out.ok i (by rw [hos] at hi; omega)
          unfold layObs at h1
          rw [nthG_app_left _ _ hi, nthG_get _ _ hi] at h1
          exact h1))
        have hO9 := hJ.out.own
        rw [hke, List.take_of_length_le (by rw [HLL.out]; omega)] at hO9
        have hO9' : OwnF .u64 47 wr w.heap.size u6 (layWords os n) := hO9
        obtain ⟨A9, c9, rfl, hc9, hA9, hS9⟩ := hO9'.arr
        have HS9 := Lib.hid hS9
        have HA9 := Lib.hid hA9
        have HC9 := Lib.hid hc9
        have HB9 := Lib.hid (HB04.out.trans (hJ.out.grew.below HB04.out.size (fun b hb => by rw [hown0] at hb; injection hb with hb; omega)))
        clear hO9 hO9' hA9 hc9 hS9 hown0
        go_wp2
        go_ret2
        exact ⟨HB9.out, _, _, _, by rw [HE.out]; rfl, HC9.out, .inr ⟨HE.out, rfl, HA9.out⟩, HS9.out⟩

theorem layF_any (A : Option Addr) (N c B lo : Nat) (n : Int) (raws : List Raw) (os : List Ob) (w : World) (hn : (Lit.int .i64 n).wf = true) (hN : N ≤ 140737488355328) (hB : B ≤ w.heap.size) (hv : ObsAt w lo B A N raws os) (hs : ∀ j, j < N → (nthG raws j).rn ≤ maxLen ∧ (nthG raws j).bn ≤ maxLen) :
    Calls Try.prog 47 #[.slice A N c, .int .i64 n] w (LayF os n w) := by
  by_cases h : n < 0 ∨ 256 < n
  · exact lay_range A N c n os w hn h
  · obtain ⟨q, rfl⟩ := Int.eq_ofNat_of_zero_le (show 0 ≤ n by omega)
    exact lay_in A N c q B lo raws os w (by omega) hN hB hv hs
theorem Lay_any (A : Option Addr) (N c B lo : Nat) (n : Int) (raws : List Raw) (os : List Ob) (w : World) (hn : (Lit.int .i64 n).wf = true) (hN : N ≤ 140737488355328) (hB : B ≤ w.heap.size) (hv : ObsAt w lo B A N raws os) (hs : ∀ j, j < N → (nthG raws j).rn ≤ maxLen ∧ (nthG raws j).bn ≤ maxLen) :
    Calls Try.prog 47 #[.slice A N c, .int .i64 n] w (LayP os n w) :=
  (layF_any A N c B lo n raws os w hn hN hB hv hs).mono fun _ _ ⟨b, A', k, c', h1, h2, h3, _⟩ => ⟨b, A', k, c', h1, h2, h3⟩
end Go.Proofs.Ytjefbekdjgmmbaa
