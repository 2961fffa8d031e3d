/-
  Parts of the proof of CarrySlides: LayAdd, Lay, RefLaid, BackM.
-/
import Derived.Test.YtjefbekdjgmmbaaCarrySlidesAm
import Derived.Test.YtjefbekdjgmmbaaCarrySlidesAo
namespace Go.Proofs.Ytjefbekdjgmmbaa
open Go.RowKit
/-- The words of a description, by a map of places. -/
def obWords (f : Int → Option Int) (o : Ob) : List Int := hWord o.2.1.length o.2.2.1.length o.1 o.2.2.2 :: (o.2.1.map (fun i => (f i).getD 0) ++ o.2.2.1)
def refsFit (f : Int → Option Int) (o : Ob) : Bool := o.2.1.all (fun i => (f i).isSome)
/-- What holds while add goes over the references. -/
structure AddI (f : Int → Option Int) (o : Ob) (w : World) (v : Value) (zs : List Int) (base g : Nat) (cs : Array Value) (k : Nat) (u : Value) (wr : World) : Prop where
  own : OwnF .u64 47 wr base u (zs ++ hWord o.2.1.length o.2.2.1.length o.1 o.2.2.2 :: (o.2.1.take k).map (fun i => (f i).getD 0))
  grew : Grew w v wr u
  ok : ∀ j, j < k → (f (nth o.2.1 j)).isSome = true
  box : Box wr g 41 cs
  ne : u.ownBlock ≠ some g
theorem AddI.next {f : Int → Option Int} {o : Ob} {w : World} {v : Value} {zs : List Int} {base g : Nat} {cs : Array Value} {k : Nat} {u u' : Value} {wr wr' : World} (h : AddI f o w v zs base g cs k u wr) (hg : Grew wr u wr' u') (hs : (f (nth o.2.1 k)).isSome = true)
    (hO : OwnF .u64 47 wr' base u' (zs ++ hWord o.2.1.length o.2.2.1.length o.1 o.2.2.2 :: (o.2.1.take (k + 1)).map (fun i => (f i).getD 0))) : AddI f o w v zs base g cs (k + 1) u' wr' :=
  have hb := h.box.grew hg h.ne
  ⟨hO, h.grew.trans hg, fun j hj => by
    rcases Nat.lt_succ_iff_lt_or_eq.1 hj with hj | hj
    · exact h.ok j hj
    · rw [hj]; exact hs, hb.1, hb.2⟩
/-- What add answers. -/
def AddP (f : Int → Option Int) (o : Ob) (v : Value) (zs : List Int) (base : Nat) (w : World) (e : Ending) (w' : World) : Prop :=
  (refsFit f o = true ∧ ∃ v', e = .returned (.tuple #[v', .int .i64 0]) ∧ OwnF .u64 47 w' base v' (zs ++ obWords f o) ∧ Grew w v w' v') ∨
  (refsFit f o = false ∧ e = .returned (.tuple #[.slice none 0 0, .int .i64 5]) ∧ ∃ v', Grew w v w' v')
set_option maxRecDepth 8000 in
set_option maxHeartbeats 4000000 in
theorem add_any (v : Value) (zs : List Int) (base gm N lo hi : Nat) (f : Int → Option Int) (r : Raw) (o : Ob) (w : World) (hO : OwnF .u64 47 w base v zs) (hbase : base ≤ w.heap.size) (hlen : zs.length ≤ 100000) (hz : oFault o = 0) (hV : ObV w lo hi r o) (hhi : hi ≤ w.heap.size)
    (h1 : Off v.ownBlock r.ra r.rn) (h2 : Off v.ownBlock r.ba r.bn) (hM : MapF Try.prog .i64 .u64 3 47 w gm N f) (hgm : v.ownBlock ≠ some gm) :
    Calls Try.prog 77 #[v, .agg #[.int .i64 r.t, .slice r.ra r.rn r.rc, .slice r.ba r.bn r.bc, .bool r.f], .map (some gm)] w (AddP f o v zs base w) := by
  have hfo := hFault_ok hz
  have hrn := hV.refs.1
  have hbn := hV.body.1
  have hrow := hO.own.rowLt
  have hz' : hFault r.rn r.bn r.t r.f = 0 := by rw [hV.tag, hV.free, ← hrn, ← hbn]; exact hz
  have HWD : Hid (hWord r.rn r.bn r.t r.f = hWord o.2.1.length o.2.2.1.length o.1 o.2.2.2) := Lib.hid (by rw [hV.tag, hV.free, hrn, hbn])
  have HH := Lib.hid (fun wx => header_any r wx (by unfold maxLen; omega) (by unfold maxLen; omega))
  have HW := Lib.hid (fun wx => word_any r.rn r.bn r.t r.f wx)
  rw [hz'] at HW
  have hwo : wordOr r.rn r.bn r.t r.f = hWord r.rn r.bn r.t r.f := by simp [wordOr, hz']
  rw [hwo, HWD.out] at HW
  have hwf := hWord_wf hz
  have hwf2 : (Lit.int .u64 (hWord o.2.1.length o.2.2.1.length o.1 o.2.2.2)).wf = true := wf_u64.2 (by omega)
  have HWF := Lib.hid hwf2
  obtain ⟨A0, c0, rfl, hc0, hA0, _⟩ := hO.arr
  have bb := (Below.refl _ w).alloc (Nat.le_refl _) (.cells #[.int .i64 r.t, .slice r.ra r.rn r.rc, .slice r.ba r.bn r.bc, .bool r.f] 41)
  have HBX := Lib.hid (Box.new w 41 #[.int .i64 r.t, .slice r.ra r.rn r.rc, .slice r.ba r.bn r.bc, .bool r.f])
  have HBB := Lib.hid bb
  have HO := Lib.hid hO
  have HV := Lib.hid hV
  have HM := Lib.hid hM
  have HROW := Lib.hid hrow
  have H1 := Lib.hid h1
  have H2 := Lib.hid h2
  have HGM := Lib.hid hgm
  have hn1 : r.rn ≤ 256 := by omega
  have hn2 : r.bn ≤ 256 := by omega
  have HRN := Lib.hid hrn
  have HBN := Lib.hid hbn
  clear hO hV hM hrow hz hz' hfo hrn hbn hwo hwf hwf2 hc0 hA0 bb h1 h2 hgm
  obtain ⟨V0, hV0⟩ : ∃ V, hWord o.2.1.length o.2.2.1.length o.1 o.2.2.2 = V := ⟨_, rfl⟩
  have HV0 := Lib.hid hV0
  rw [hV0] at HW HWF HWD
  clear hV0
  obtain ⟨L0, hL0⟩ : ∃ L, zs.length = L := ⟨_, rfl⟩
  have HL0 := Lib.hid hL0
  rw [hL0] at HO HROW H1 H2 HGM hlen ⊢
  clear hL0
  obtain ⟨t, ra, rn, rc, ba, bn, bc, fr⟩ := r
  simp only at *
  go_enter Try.func77, Try.ntmps77
  go_wp2_with fail
  refine (HH.out _).mono ?_
  rintro e w1 ⟨rfl, b1⟩
  have HB1 := Lib.hid (HBB.out.trans (b1.mono HBB.out.size))
  have BX1 := Lib.hid (HBX.out.below b1 HBX.out.lt)
  clear b1
  go_wp2_with fail
  refine (HW.out _).mono ?_
  rintro e w2 ⟨rfl, b2⟩
  have HB2 := Lib.hid (HB1.out.trans (b2.mono HB1.out.size))
  have BX2 := Lib.hid (BX1.out.below b2 BX1.out.lt)
  clear b2
  obtain ⟨v', w3, hrun, hO', hG'⟩ := (HO.out.below HB2.out (Nat.le_refl _)).pushF (P := Try.prog) (t := 22) (ty := 22) Try.underlying22 u64_info (by omega) HWF.out (by have := HL0.out; omega) (Nat.le_trans hbase HB2.out.size)
  have hneg : (Value.slice A0 L0 c0).ownBlock ≠ some w.heap.size := fun e => by have := HROW.out _ e; omega
  have hb3 := BX2.out.grew hG' hneg
  have hI : AddI f o w (.slice A0 L0 c0) zs base w.heap.size #[.int .i64 t, .slice ra rn rc, .slice ba bn bc, .bool fr] 0 v' w3 :=
    ⟨by rw [HV0.out]; simpa using hO', (Grew.of_below HB2.out _).trans hG', fun j hj => absurd hj (by omega), hb3.1, hb3.2⟩
  have HI := Lib.hid hI
  have HR := Lib.hid hrun
  have y1 : w3.cell? ⟨w.heap.size, 1, none⟩ = some (.slice ra rn rc) := hb3.1.cell 1
  clear hrun hO' hG' hneg hb3 hI HB1 BX1
  go_wp2_with (at_builtin; refine wpList_append_run rfl (.tmp 23) (.tmp 25) 22 rfl rfl rfl HR.out ?_)
  clear y1
  go_loopw [0, 30] (fun u i wr => ∃ k : Nat, k ≤ rn ∧ i = .int .i64 k ∧ Hid (AddI f o w (.slice A0 L0 c0) zs base w.heap.size #[.int .i64 t, .slice ra rn rc, .slice ba bn bc, .bool fr] k u wr)) (fun _ i _ => rn - (intOf i).toNat)
  case atStart => exact ⟨0, by omega, rfl, HI⟩
  case round =>
    obtain ⟨k, hk, rfl, hJ⟩ := hrel
    rename_i u0
    clear HI HR BX2
    obtain ⟨hVw, o1, o2⟩ := HV.out.grew hJ.out.grew H1.out H2.out hhi
    obtain ⟨hMw, og⟩ := HM.out.grew hJ.out.grew HGM.out
    have hbs := Nat.le_trans hbase hJ.out.grew.size
    by_cases hlt : k < rn
    · obtain ⟨b4, o4, rfl, _, hcs⟩ := hVw.refs.2.2 (by show 0 < rn; omega)
      have hc := hcs k hlt
      have hwf := hVw.refs.2.1 (nth o.2.1 k) (by rw [nth_get _ _ (by rw [HRN.out]; exact hlt)]; exact List.getElem_mem _)
      have hlk := hMw.lookOk mapT2 hwf
      have hwv := hMw.wf mapT2 hwf
      have htk : o.2.1.take (k + 1) = o.2.1.take k ++ [nth o.2.1 k] := by
        rw [nth_get _ _ (by rw [HRN.out]; exact hlt), List.take_succ_eq_append_getElem]
      clear hcs hwf
      cases ho : (f (nth o.2.1 k)).isSome
      · rw [ho] at hlk
        have HRF : Hid (refsFit f o = false) := Lib.hid (by
          unfold refsFit
          rw [List.all_eq_false]
          exact ⟨nth o.2.1 k, by rw [nth_get _ _ (by rw [HRN.out]; exact hlt)]; exact List.getElem_mem _, by rw [ho]; decide⟩)
        clear ho htk hwv hMw hVw
        generalize (f (nth o.2.1 k)).getD 0 = Y at *
        generalize nth o.2.1 k = X at *
        go_wp2
        go_ret2
        exact .inr ⟨HRF.out, rfl, _, hJ.out.grew⟩
      · rw [ho] at hlk
        obtain ⟨v', w4, hrun, hO', hG'⟩ := hJ.out.own.pushF (P := Try.prog) (t := 22) (ty := 22) Try.underlying22 u64_info (by omega) hwv (by have := HL0.out; simp; omega) hbs
        have hN := hJ.out.next hG' ho (by rw [htk, List.map_append]; simpa using hO')
        have HN := Lib.hid hN
        have HR := Lib.hid hrun
        clear ho htk hwv hMw hVw hrun hO' hG' hN
        generalize (f (nth o.2.1 k)).getD 0 = Y at *
        generalize nth o.2.1 k = X at *
        go_wp2_with (at_builtin; refine wpList_append_run rfl (.tmp 42) (.tmp 44) 22 rfl rfl rfl HR.out ?_)
        go_roundw
        case rel => exact ⟨k + 1, by omega, by go_num, HN⟩
        case measure => simp [intOf]; omega
    · obtain rfl : k = rn := by omega
      have hO9 := hJ.out.own
      rw [List.take_of_length_le (by rw [HRN.out]; omega)] at hO9
      obtain ⟨v', w4, hrun, hO', hG'⟩ := hO9.catF (P := Try.prog) (t := 22) (ty := 22) (c := bc) Try.underlying22 u64_info (by omega) hVw.body (by have := HL0.out; have := HRN.out; simp; omega) hbs
      have HO9 : Hid (OwnF .u64 47 w4 base v' (zs ++ obWords f o)) := Lib.hid (by unfold obWords; simpa using hO')
      have HG9 := Lib.hid (hJ.out.grew.trans hG')
      have HR := Lib.hid hrun
      have HRF : Hid (refsFit f o = true) := Lib.hid (by
        unfold refsFit
        rw [List.all_eq_true]
        intro x hx
        obtain ⟨i, hi, rfl⟩ := List.getElem_of_mem hx
        have := hJ.out.ok i (by rw [HRN.out] at hi; exact hi)
        rwa [nth_get _ _ hi] at this)
      have y2 : wr.cell? ⟨w.heap.size, 2, none⟩ = some (.slice ba bn bc) := hJ.out.box.cell 2
      clear hrun hO' hG' hO9 hMw hVw
      go_wp2_with (at_builtin; refine wpList_append_run rfl (.tmp 47) (.tmp 49) 22 rfl rfl rfl HR.out ?_)
      go_ret2
      exact .inl ⟨HRF.out, _, rfl, HO9.out, HG9.out⟩
end Go.Proofs.Ytjefbekdjgmmbaa
namespace Go.Proofs.Ytjefbekdjgmmbaa
open Go.RowKit
/-- The error of Lay. -/
def layErr (os : List Ob) (n : Int) : Int := if n < 0 ∨ 256 < n then 4 else if pErr os n.toNat = 0 then (if os.all (refsFit (pMap os n.toNat os.length)) then 0 else 5) else pErr os n.toNat
/-- All descriptions that are laid. -/
def layObs (os : List Ob) (n : Nat) : List Ob := os ++ restObs (n - offs os os.length)
def layWords (os : List Ob) (n : Nat) : List Int := (layObs os n).flatMap (obWords (pMap os n os.length))
theorem layErr_range {os : List Ob} {n : Int} (h : n < 0 ∨ 256 < n) : layErr os n = 4 := by simp [layErr, h]
theorem layErr_place {os : List Ob} {n : Nat} (h : n ≤ 256) (hp : pErr os n ≠ 0) : layErr os n = pErr os n := by
  unfold layErr
  rw [if_neg (by omega)]
  simp [hp]
theorem layErr_fit {os : List Ob} {n : Nat} (h : n ≤ 256) (hp : pErr os n = 0) (hf : os.all (refsFit (pMap os n os.length)) = true) : layErr os n = 0 := by
  unfold layErr
  rw [if_neg (by omega)]
  simp [hp, hf]
theorem layErr_none {os : List Ob} {n : Nat} (h : n ≤ 256) (hp : pErr os n = 0) (hf : os.all (refsFit (pMap os n os.length)) = false) : layErr os n = 5 := by
  unfold layErr
  rw [if_neg (by omega)]
  simp [hp, hf]
theorem restObs_len (k : Nat) : (restObs k).length ≤ 1 := by unfold restObs; split <;> simp
theorem rest_mem {k : Nat} {o : Ob} (h : o ∈ restObs k) : o = (0, [], List.replicate (k - 1) 0, true) := by
  unfold restObs at h
  split at h
  · cases h
  · simpa using h
theorem rest_fit {k : Nat} {o : Ob} (f : Int → Option Int) (h : o ∈ restObs k) : refsFit f o = true := by rw [rest_mem h]; rfl
theorem rest_fault {k : Nat} {o : Ob} (hk : k ≤ 256) (h : o ∈ restObs k) : oFault o = 0 := by
  rw [rest_mem h]
  show hFault (0 : Int) (((List.replicate (k - 1) (0 : Int)).length : Nat) : Int) 0 true = 0
  have h1 : within (((List.replicate (k - 1) (0 : Int)).length : Nat) : Int) 256 = true := within_true (by omega) (by simp; omega)
  rw [hFault_in (within_true (by omega) (by omega)) h1 (within_true (by omega) (by omega)) (fun _ => ⟨rfl, rfl⟩)]
  rw [if_neg (by simp; omega)]
theorem obWords_len (f : Int → Option Int) (o : Ob) : (obWords f o).length = oLong o := by simp [obWords, oLong]; omega
theorem flat_words_len (f : Int → Option Int) : ∀ l : List Ob, (l.flatMap (obWords f)).length = (l.map oLong).sum
  | [] => rfl
  | o :: l => by rw [List.flatMap_cons, List.length_append, obWords_len, flat_words_len f l]; simp
theorem nthG_app_left {α : Type} [Inhabited α] (l l' : List α) {j : Nat} (h : j < l.length) : nthG (l ++ l') j = nthG l j := by
  rw [nthG_get _ _ (by simp; omega), nthG_get _ _ h, List.getElem_append_left h]
theorem nthG_app_right {α : Type} [Inhabited α] (l l' : List α) {j : Nat} (h : l.length ≤ j) (h' : j < l.length + l'.length) : nthG (l ++ l') j = nthG l' (j - l.length) := by
  rw [nthG_get _ _ (by simp; omega), nthG_get _ _ (by omega), List.getElem_append_right h]
/-- What Lay answers. -/
def LayF (os : List Ob) (n : Int) (w : World) (e : Ending) (w' : World) : Prop := Below w.heap.size w w' ∧ ∃ A k c, e = .returned (.tuple #[.slice A k c, .int .i64 (layErr os n)]) ∧ k ≤ c ∧
  ((layErr os n ≠ 0 ∧ k = 0) ∨ (layErr os n = 0 ∧ k = (layWords os n.toNat).length ∧ Arr .u64 w' w'.heap.size A k (layWords os n.toNat))) ∧ SpareI .u64 47 w.heap.size w' A c
/-- What holds while Lay goes over the descriptions. -/
structure LayI (os : List Ob) (n : Nat) (base : Nat) (w4 : World) (v : Value) (k : Nat) (u : Value) (wr : World) : Prop where
  own : OwnF .u64 47 wr base u (((layObs os n).take k).flatMap (obWords (pMap os n os.length)))
  grew : Grew w4 v wr u
  ok : ∀ j, j < k → refsFit (pMap os n os.length) (nthG (layObs os n) j) = true
theorem lay_range (A : Option Addr) (N c : Nat) (n : Int) (os : List Ob) (w : World) (hn : (Lit.int .i64 n).wf = true) (h : n < 0 ∨ 256 < n) :
    Calls Try.prog 47 #[.slice A N c, .int .i64 n] w (LayF os n w) := by
  have HE := Lib.hid (layErr_range (os := os) h)
  have HC := Lib.hid (new_bad n w hn h)
  clear hn h
  go_enter Try.func47, Try.ntmps47
  go_wp2_with fail
  refine HC.out.mono ?_
  rintro e w1 ⟨rfl, rfl⟩
  go_wp2
  go_ret2
  exact ⟨Below.refl _ _, _, _, _, by rw [HE.out]; rfl, Nat.le_refl _, .inl ⟨by rw [HE.out]; decide, rfl⟩, SpareI.nil⟩
set_option maxRecDepth 8000 in
set_option maxHeartbeats 4000000 in
theorem lay_in (A : Option Addr) (N c n B lo : Nat) (raws : List Raw) (os : List Ob) (w : World) (hn : n ≤ 256) (hN : N ≤ 140737488355328) (hB : B ≤ w.heap.size) (hv : ObsAt w lo B A N raws os) (hs : ∀ j, j < N → (nthG raws j).rn ≤ maxLen ∧ (nthG raws j).bn ≤ maxLen) :
    Calls Try.prog 47 #[.slice A N c, .int .i64 n] w (LayF os n w) := by
  have HNw := Lib.hid (new_ok n w (by omega) (by omega))
  rw [Int.toNat_natCast] at HNw
  have HV := Lib.hid hv
  have HS := Lib.hid hs
  clear hv hs
  go_enter Try.func47, Try.ntmps47
  go_wp2_with fail
  refine HNw.out.mono ?_
  rintro e w1 ⟨rfl, hW1, b1⟩
  have HB1 := Lib.hid b1
  have HW1 := Lib.hid hW1
  have HPL := Lib.hid (lplace_any A N c n B lo raws os w1 hn hN (Nat.le_trans hB b1.size) (HV.out.2.1.below b1 hB) HV.out.1 (fun j hj => (HV.out.2.2 j hj).below b1 hB) HS.out)
  clear b1 hW1 HNw
  go_wp2_with fail
  refine HPL.out.mono ?_
  rintro e w2 ⟨b2, hq⟩
  have HB2 := Lib.hid b2
  clear b2 HPL
  rcases hq with ⟨hne, rfl⟩ | ⟨hz, gm, rfl, hgm, hM⟩
  · have HE := Lib.hid (layErr_place hn hne)
    have hbz : (pErr os n != 0) = true := by simpa using hne
    have HZ := Lib.hid hne
    clear hne
    go_wp2
    go_ret2
    exact ⟨HB1.out.trans (HB2.out.mono HB1.out.size), _, _, _, by rw [HE.out]; rfl, Nat.le_refl _, .inl ⟨by rw [HE.out]; exact HZ.out, rfl⟩, SpareI.nil⟩
  · obtain ⟨hfz, htot⟩ := pErr_zero hz
    have hos := HV.out.1
    have hge := offs_ge (os := os) N (by omega)
    rw [hos] at htot
    have hN256 : N ≤ 256 := by omega
    have HPZ := Lib.hid hz
    have HFZ := Lib.hid hfz
    have HM := Lib.hid hM
    have HGM := Lib.hid hgm
    rw [hos]
    obtain ⟨tot, ht⟩ : ∃ t, offs os N = t := ⟨_, rfl⟩
    rw [ht] at htot hge ⊢
    have HT := Lib.hid ht
    obtain ⟨D, hD, hD2⟩ := run_upto (P := Try.prog) Try.underlying22 u64_size (some ⟨w.heap.size, 0, none⟩) n n 0 0 rfl (by omega)
    obtain rfl := hD2 w.heap.size 0 rfl
    have hW2 := HW1.out.below HB2.out HW1.out.lt
    have hO2 : OwnF .u64 47 w2 w.heap.size (.slice (some ⟨w.heap.size, 0, none⟩) 0 n) [] :=
      OwnF.of_whole hW2 (by simp) (by unfold maxLen; omega) (Nat.le_refl _)
    have HO2 := Lib.hid hO2
    have HR3 := Lib.hid (rest_any (n - tot) w2 (by omega))
    have e1 : (n : Int) - (tot : Int) = ((n - tot : Nat) : Int) := by omega
    clear hz hfz hM hgm ht hD2 hW2 hO2
    have e2 : IntKind.i64.wrap ((n : Int) - (tot : Int)) = ((n - tot : Nat) : Int) := by rw [e1]; exact IntWalk.i64_in _ (by omega)
    go_wp2_with fail
    refine HR3.out.mono ?_
    rintro e w3 ⟨A3, c3, raws3, rfl, b3, hc3, hr3⟩
    have HR3' := Lib.hid hr3
    have HB3 := Lib.hid b3
    have hlr := restObs_len (n - tot)
    obtain ⟨n3, hn3⟩ : ∃ x, (restObs (n - tot)).length = x := ⟨_, rfl⟩
    rw [hn3] at HR3' hlr ⊢
    have HN3 := Lib.hid hn3
    have hb13 := HB2.out.trans (b3.mono HB2.out.size)
    have hb03 : Below w.heap.size w w3 := HB1.out.trans (hb13.mono HB1.out.size)
    have a4 := (Below.refl _ w3).alloc (Nat.le_refl _) (.cells #[.slice A N c, .slice A3 n3 c3] 24)
    have bx4 := Box.new w3 24 #[.slice A N c, .slice A3 n3 c3]
    have HCC := Lib.hid (concat_any A A3 N n3 c c3 w3.heap.size w3.heap.size raws raws3 _ hN256 (by omega) (Nat.le_of_lt bx4.lt) (((HV.out.2.1.below hb03 hB).more (Nat.le_trans hB hb03.size)).below a4 (Nat.le_refl _)) (HR3'.out.2.1.below a4 (Nat.le_refl _)) bx4)
    have HB03 := Lib.hid hb03
    have HA4 := Lib.hid a4
    have z4 : (w3.alloc (.cells #[.slice A N c, .slice A3 n3 c3] 24)).heap.size = w3.heap.size + 1 := by simp
    have HZ4 := Lib.hid z4
    clear b3 hc3 hr3 hn3 hb13 hb03 a4 bx4 z4 HR3 e1 e2 hD
    go_wp2_with fail
    refine HCC.out.mono ?_
    rintro e w4 ⟨v4, rfl, hO4, b4⟩
    obtain ⟨A4, c4, rfl, hc4, hArr4⟩ := hO4.arr rawC_len
    have hH4 := hO4.high
    have hl1 := HV.out.2.1.1
    have hl3 := HR3'.out.2.1.1
    have hM4 : (raws ++ raws3).length = N + n3 := by simp [hl1, hl3]
    rw [hM4] at hArr4 hc4 hH4 ⊢
    rw [HZ4.out] at hH4
    have b24 : Below w2.heap.size w2 w4 := HB3.out.trans (((HA4.out.trans (b4.mono HA4.out.size))).mono HB3.out.size)
    have b34 : Below w3.heap.size w3 w4 := HA4.out.trans (b4.mono HA4.out.size)
    have b04 : Below w.heap.size w w4 := HB03.out.trans (b34.mono HB03.out.size)
    have hO24 := HO2.out.below b24 (Nat.le_refl _)
    have hg0 : w.heap.size < w1.heap.size := HW1.out.lt
    have hs12 := HB2.out.size
    have hs23 := HB3.out.size
    have hM24 := HM.out.below b24 HM.out.lt
    have hObs : ∀ j, j < N + n3 → ObV w4 0 w4.heap.size (nthG (raws ++ raws3) j) (nthG (layObs os n) j) ∧ Off (some w.heap.size) (nthG (raws ++ raws3) j).ra (nthG (raws ++ raws3) j).rn ∧ Off (some w.heap.size) (nthG (raws ++ raws3) j).ba (nthG (raws ++ raws3) j).bn ∧ oFault (nthG (layObs os n) j) = 0 := fun j hj => by
      unfold layObs
      rw [hos, HT.out]
      by_cases hjN : j < N
      · rw [nthG_app_left _ _ (by rw [hl1]; exact hjN), nthG_app_left _ _ (by rw [hos]; exact hjN)]
        have h1 := (HV.out.2.2 j hjN)
        have h2 := (h1.below b04 hB)
        exact ⟨(h2.more (Nat.le_trans hB b04.size)).less (Nat.zero_le _), h1.refs.off (fun b hb => by injection hb with hb; omega), h1.body.off (fun b hb => by injection hb with hb; omega), fault_zero HFZ.out j (by rw [hos]; exact hjN)⟩
      · rw [nthG_app_right _ _ (by rw [hl1]; omega) (by rw [hl1, hl3]; omega), nthG_app_right _ _ (by rw [hos]; omega) (by rw [hos, HN3.out]; omega), hl1, hos]
        have h1 := HR3'.out.2.2 (j - N) (by omega)
        exact ⟨((h1.below b34 (Nat.le_refl _)).more b34.size).less (Nat.zero_le _), Off.of_high h1.rhigh (fun b hb => by injection hb with hb; omega), Off.of_high h1.bhigh (fun b hb => by injection hb with hb; omega),
          rest_fault (k := n - tot) (by omega) (by rw [nthG_get _ _ (by rw [HN3.out]; omega)]; exact List.getElem_mem _)⟩
    have hOffA : Off (some w.heap.size) A4 (N + n3) := Off.of_high hH4 (fun b hb => by injection hb with hb; omega)
    have hLL : (layObs os n).length = N + n3 := by unfold layObs; rw [List.length_append, hos, HT.out, HN3.out]
    have hgne : (Value.slice (some ⟨w.heap.size, 0, none⟩) 0 n).ownBlock ≠ some gm := fun e => by
      have h1 : some w.heap.size = some gm := e
      injection h1 with h1
      have := HGM.out
      omega
    have HObs := Lib.hid hObs
    have HOA := Lib.hid hOffA
    have HArr := Lib.hid hArr4
    have HLL := Lib.hid hLL
    have HM4 := Lib.hid hM24
    have HGN := Lib.hid hgne
    have HB04 := Lib.hid b04
    have HC4 := Lib.hid hc4
    have hI : LayI os n w.heap.size w4 (.slice (some ⟨w.heap.size, 0, none⟩) 0 n) 0 (.slice (some ⟨w.heap.size, 0, none⟩) 0 n) w4 := ⟨by simpa using hO24, Grew.refl _ _, fun j hj => absurd hj (by omega)⟩
    have HI := Lib.hid hI
    clear hO4 hc4 hArr4 hH4 hl1 hl3 hM4 b24 b34 b04 hO24 hg0 hs12 hs23 hM24 hObs hOffA hLL hgne b4 hI HCC HO2 HM HGM HR3' HB3 HA4 HZ4 HB03 HW1
    obtain ⟨v0, hv0⟩ : ∃ v, (Value.slice (some ⟨w.heap.size, 0, none⟩) 0 n) = v := ⟨_, rfl⟩
    have HV0 := Lib.hid hv0
    go_wp2_with fail
    rw [hv0] at HI HGN
    clear hv0
    go_loopw [6, 40] (fun u i wr => ∃ k : Nat, k ≤ N + n3 ∧ i = .int .i64 k ∧ Hid (LayI os n w.heap.size w4 v0 k u wr)) (fun _ i _ => N + n3 - (intOf i).toNat)
    case atStart => exact ⟨0, by omega, rfl, HI⟩
    case round =>
      obtain ⟨k, hk, rfl, hJ⟩ := hrel
      rename_i u6
      clear HI
      have hown0 : v0.ownBlock = some w.heap.size := by rw [← HV0.out]; rfl
      by_cases hlt : k < N + n3
      · obtain ⟨hV4, o1, o2, hof⟩ := HObs.out k hlt
        rw [← hown0] at o1 o2
        obtain ⟨hVr, o1r, o2r⟩ := hV4.grew hJ.out.grew o1 o2 (Nat.le_refl _)
        obtain ⟨hArr, oAr⟩ := HArr.out.grew hJ.out.grew (by rw [hown0]; exact HOA.out) (Nat.le_refl _)
        obtain ⟨hMr, ogr⟩ := HM4.out.grew hJ.out.grew HGN.out
        obtain ⟨b, off, rfl, hb, x0, x1, x2, x3⟩ := hArr.raw hlt
        have hrow := hJ.out.own.own.rowLt
        have hlen : (((layObs os n).take k).flatMap (obWords (pMap os n os.length))).length ≤ 100000 := by
          rw [flat_words_len]
          have h1 := offs_le (os := layObs os n) k (by rw [HLL.out]; omega) (fun j hj => (HObs.out j (by omega)).2.2.2)
          unfold offs at h1
          omega
        have ba := (Below.refl _ wr).alloc (Nat.le_refl _) (.cells #[.int .i64 (nthG (raws ++ raws3) k).t, .slice (nthG (raws ++ raws3) k).ra (nthG (raws ++ raws3) k).rn (nthG (raws ++ raws3) k).rc, .slice (nthG (raws ++ raws3) k).ba (nthG (raws ++ raws3) k).bn (nthG (raws ++ raws3) k).bc, .bool (nthG (raws ++ raws3) k).f] 41)
        have HAD := Lib.hid (add_any u6 _ w.heap.size gm (os.length + 1) 0 w4.heap.size (pMap os n os.length) (nthG (raws ++ raws3) k) (nthG (layObs os n) k) _ (hJ.out.own.below ba (Nat.le_refl _)) (Nat.le_trans (Nat.le_trans HB04.out.size hJ.out.grew.size) ba.size) hlen hof (hVr.below ba hJ.out.grew.size) (Nat.le_trans hJ.out.grew.size ba.size) o1r o2r (hMr.below ba hMr.lt) ogr)
        have htk : (layObs os n).take (k + 1) = (layObs os n).take k ++ [nthG (layObs os n) k] := by
          rw [nthG_get _ _ (by rw [HLL.out]; exact hlt), List.take_succ_eq_append_getElem]
        have HTK := Lib.hid htk
        have HGA := Lib.hid (Grew.of_below ba u6)
        have HBW0 : Hid (∀ wx ux, Grew wr u6 wx ux → Below w.heap.size w wx) := Lib.hid fun wx ux hg => HB04.out.trans ((hJ.out.grew.trans hg).below HB04.out.size (fun b hb => by rw [hown0] at hb; injection hb with hb; omega))
        clear hV4 o1 o2 hof hVr o1r o2r hArr oAr hMr ogr hb hrow hlen ba htk
        generalize nthG (raws ++ raws3) k = r at *
        obtain ⟨t, ra, rn, rc, ba, bn, bc, fr⟩ := r
        simp only at x0 x1 x2 x3 HAD HGA
        obtain ⟨Au, Lu, cu, rfl⟩ : ∃ a l c, u6 = .slice a l c := by
          obtain ⟨a, c, h, _, _, _⟩ := hJ.out.own.arr
          exact ⟨_, _, _, h⟩
        go_wp2_with fail
        refine HAD.out.mono ?_
        rintro e w5 (⟨hfit, v', rfl, hO', hG'⟩ | ⟨hfit, rfl, v', hG'⟩)
        · obtain ⟨A5, c5, rfl, _, _, _⟩ := hO'.arr
          have hN : LayI os n w.heap.size w4 v0 (k + 1) (.slice A5 (List.flatMap (obWords (pMap os n os.length)) (List.take k (layObs os n)) ++ obWords (pMap os n os.length) (nthG (layObs os n) k)).length c5) w5 :=
            ⟨by rw [HTK.out, List.flatMap_append, List.flatMap_cons, List.flatMap_nil, List.append_nil]; exact hO', hJ.out.grew.trans (HGA.out.trans hG'), fun j hj => by
              rcases Nat.lt_succ_iff_lt_or_eq.1 hj with h | h
              · exact hJ.out.ok j h
              · rw [h]; exact hfit⟩
          have HN := Lib.hid hN
          clear hfit hO' hG' hN HAD x0 x1 x2 x3 hJ
          generalize (List.flatMap (obWords (pMap os n os.length)) (List.take k (layObs os n)) ++ obWords (pMap os n os.length) (nthG (layObs os n) k)).length = L5 at *
          go_wp2
          go_roundw
          case rel => exact ⟨k + 1, by omega, by go_num, HN⟩
          case measure => simp [intOf]; omega
        · have HE : Hid (layErr os n = 5) := Lib.hid (layErr_none hn HPZ.out (by
            rw [List.all_eq_false]
            have hkN : k < N := by
              rcases Nat.lt_or_ge k N with h | h
              · exact h
              · exfalso
                have h1 : refsFit (pMap os n os.length) (nthG (layObs os n) k) = true := by
                  unfold layObs
                  rw [nthG_app_right _ _ (by rw [hos]; exact h) (by rw [hos, HT.out, HN3.out]; exact hlt), hos, HT.out]
                  exact rest_fit _ (by rw [nthG_get _ _ (by rw [HN3.out]; omega)]; exact List.getElem_mem _)
                rw [h1] at hfit; cases hfit
            refine ⟨nthG os k, by rw [nthG_get _ _ (by rw [hos]; exact hkN)]; exact List.getElem_mem _, ?_⟩
            unfold layObs at hfit
            rw [nthG_app_left _ _ (by rw [hos]; exact hkN)] at hfit
            rw [hfit]; decide))
          have HB9 := Lib.hid (HBW0.out _ _ (HGA.out.trans hG'))
          clear hfit hG' HAD x0 x1 x2 x3
          go_wp2
          go_ret2
          exact ⟨HB9.out, _, _, _, by rw [HE.out]; rfl, Nat.le_refl _, .inl ⟨by rw [HE.out]; decide, rfl⟩, SpareI.nil⟩
      · obtain hke : k = N + n3 := by omega
        have HE : Hid (layErr os n = 0) := Lib.hid (layErr_fit hn HPZ.out (by
          rw [List.all_eq_true]
          intro x hx
          obtain ⟨i, hi, rfl⟩ := List.getElem_of_mem hx
          have h1 := hJ.out.ok i (by rw [hos] at hi; omega)
          unfold layObs at h1
          rw [nthG_app_left _ _ hi, nthG_get _ _ hi] at h1
          exact h1))
        have hO9 := hJ.out.own
        rw [hke, List.take_of_length_le (by rw [HLL.out]; omega)] at hO9
        have hO9' : OwnF .u64 47 wr w.heap.size u6 (layWords os n) := hO9
        obtain ⟨A9, c9, rfl, hc9, hA9, hS9⟩ := hO9'.arr
        have HS9 := Lib.hid hS9
        have HA9 := Lib.hid hA9
        have HC9 := Lib.hid hc9
        have HB9 := Lib.hid (HB04.out.trans (hJ.out.grew.below HB04.out.size (fun b hb => by rw [hown0] at hb; injection hb with hb; omega)))
        clear hO9 hO9' hA9 hc9 hS9 hown0
        go_wp2
        go_ret2
        exact ⟨HB9.out, _, _, _, by rw [HE.out]; rfl, HC9.out, .inr ⟨HE.out, rfl, HA9.out⟩, HS9.out⟩
theorem layF_any (A : Option Addr) (N c B lo : Nat) (n : Int) (raws : List Raw) (os : List Ob) (w : World) (hn : (Lit.int .i64 n).wf = true) (hN : N ≤ 140737488355328) (hB : B ≤ w.heap.size) (hv : ObsAt w lo B A N raws os) (hs : ∀ j, j < N → (nthG raws j).rn ≤ maxLen ∧ (nthG raws j).bn ≤ maxLen) :
    Calls Try.prog 47 #[.slice A N c, .int .i64 n] w (LayF os n w) := by
  by_cases h : n < 0 ∨ 256 < n
  · exact lay_range A N c n os w hn h
  · obtain ⟨q, rfl⟩ := Int.eq_ofNat_of_zero_le (show 0 ≤ n by omega)
    exact lay_in A N c q B lo raws os w (by omega) hN hB hv hs
end Go.Proofs.Ytjefbekdjgmmbaa
namespace Go.Proofs.Ytjefbekdjgmmbaa
open Go.RowKit
section
variable {os : List Ob} {n : Nat}
theorem pMap_null : ∀ k, pMap os n k (-1) = some 0
  | 0 => rfl
  | k + 1 => by
    by_cases h : (nthG os k).2.2.2 = false ∧ offs os k + oLong (nthG os k) ≤ n
    · rw [pMap_in h.1 h.2, put_other _ (by omega)]; exact pMap_null k
    · rw [pMap, if_neg h]; exact pMap_null k
theorem pMap_hit : ∀ (k : Nat) {j : Nat}, offs os os.length ≤ n → k ≤ os.length → j < k → (nthG os j).2.2.2 = false → pMap os n k (j : Int) = some ((offs os j : Int) + 1)
  | 0, j, _, _, hj, _ => absurd hj (by omega)
  | k + 1, j, ht, hk, hj, hf => by
    by_cases he : j = k
    · subst he
      have := offs_mono (os := os) (i := j + 1) (j := os.length) (by omega) (Nat.le_refl _)
      rw [offs_step (by omega)] at this
      rw [pMap_in hf (by omega), put_same]
    · have ih := pMap_hit k ht (by omega) (by omega) hf
      by_cases h : (nthG os k).2.2.2 = false ∧ offs os k + oLong (nthG os k) ≤ n
      · rw [pMap_in h.1 h.2, put_other _ (by omega)]; exact ih
      · rw [pMap, if_neg h]; exact ih
theorem pMap_some : ∀ (k : Nat) {x y : Int}, x ≠ -1 → pMap os n k x = some y → ∃ j : Nat, j < k ∧ x = j ∧ (nthG os j).2.2.2 = false
  | 0, x, y, hx, h => by
    unfold pMap at h
    rw [put_other _ hx] at h; cases h
  | k + 1, x, y, hx, h => by
    by_cases hc : (nthG os k).2.2.2 = false ∧ offs os k + oLong (nthG os k) ≤ n
    · rw [pMap_in hc.1 hc.2] at h
      by_cases he : x = k
      · exact ⟨k, by omega, he, hc.1⟩
      · rw [put_other _ he] at h
        obtain ⟨j, h1, h2⟩ := pMap_some k hx h
        exact ⟨j, by omega, h2⟩
    · rw [pMap, if_neg hc] at h
      obtain ⟨j, h1, h2⟩ := pMap_some k hx h
      exact ⟨j, by omega, h2⟩
end
end Go.Proofs.Ytjefbekdjgmmbaa
namespace Go.Proofs.Ytjefbekdjgmmbaa
open Go.RowKit
theorem nth_drop (zs : List Int) (a i : Nat) : nth (zs.drop a) i = nth zs (a + i) := by simp [nth, List.getD]
theorem chunk {zs rest rs bs : List Int} {a R Bd : Nat} {h : Int} (e : zs.drop a = (h :: (rs ++ bs)) ++ rest) (hr : rs.length = R) (hb : bs.length = Bd) :
    nth zs a = h ∧ (zs.drop (a + 1)).take R = rs ∧ (zs.drop (a + 1 + R)).take Bd = bs := by
  subst hr hb
  refine ⟨?_, ?_, ?_⟩
  · have := nth_drop zs a 0
    rw [e] at this
    simpa [nth] using this.symm
  · rw [← List.drop_drop, e]
    simp
  · rw [Nat.add_assoc, ← List.drop_drop, e, Nat.add_comm, ← List.drop_drop]
    simp [List.append_assoc]
section
variable {f : Int → Option Int} {L : List Ob}
theorem flat_len : (L.flatMap (obWords f)).length = offs L L.length := by rw [flat_words_len]; unfold offs; rw [List.take_length]
theorem flat_drop (k : Nat) : (L.flatMap (obWords f)).drop (offs L k) = (L.drop k).flatMap (obWords f) := by
  have e : L.flatMap (obWords f) = (L.take k).flatMap (obWords f) ++ (L.drop k).flatMap (obWords f) := by rw [← List.flatMap_append, List.take_append_drop]
  rw [e]
  exact List.drop_left' (by rw [flat_words_len]; rfl)
theorem flat_chunk {k : Nat} (hk : k < L.length) : (L.flatMap (obWords f)).drop (offs L k) = obWords f (nthG L k) ++ (L.flatMap (obWords f)).drop (offs L (k + 1)) := by
  rw [flat_drop, flat_drop, List.drop_eq_getElem_cons hk, List.flatMap_cons, nthG_get _ _ hk]
/-- The object that begins where description 'k' was laid. -/
theorem flat_obj {k : Nat} (hk : k < L.length) (hz : oFault (nthG L k) = 0) :
    let zs := L.flatMap (obWords f)
    vBad (nth zs (offs L k)) = false ∧ sLong (nth zs (offs L k)) = oLong (nthG L k) ∧ vT (nth zs (offs L k)) = (nthG L k).1 ∧ vF (nth zs (offs L k)) = (nthG L k).2.2.2 ∧
      refWords zs (offs L k) = (nthG L k).2.1.map (fun i => (f i).getD 0) ∧ bodyWords zs (offs L k) = (nthG L k).2.2.1 := by
  intro zs
  have hc := chunk (flat_chunk (f := f) hk) (R := (nthG L k).2.1.length) (Bd := (nthG L k).2.2.1.length) (by simp) rfl
  obtain ⟨h1, h2, h3⟩ := hc
  obtain ⟨g1, g2, g3, g4, g5⟩ := word_of_header hz
  have e0 : nth zs (offs L k) = hWord (nthG L k).2.1.length (nthG L k).2.2.1.length (nthG L k).1 (nthG L k).2.2.2 := h1
  have e1 : vR (nth zs (offs L k)) = (nthG L k).2.1.length := by rw [e0, g2]
  have e2 : vB (nth zs (offs L k)) = (nthG L k).2.2.1.length := by rw [e0, g3]
  refine ⟨by rw [e0, g1], ?_, by rw [e0, g4], by rw [e0, g5], ?_, ?_⟩
  · unfold sLong oLong
    rw [e1, e2]; simp
  · unfold refWords
    rw [e1, Int.toNat_natCast]; exact h2
  · unfold bodyWords
    rw [e1, e2, Int.toNat_natCast, Int.toNat_natCast]; exact h3
theorem begins_flat (hL : ∀ j, j < L.length → oFault (nthG L j) = 0) : ∀ (d k : Nat), k + d = L.length →
    begins (L.flatMap (obWords f)) (offs L k) = (List.range d).map (fun i => offs L (k + i)) ∧ fine (L.flatMap (obWords f)) (offs L k) = true
  | 0, k, h => by
    have hk : k = L.length := by omega
    subst hk
    exact ⟨begins_end (by rw [flat_len]; omega), fine_end (by rw [flat_len]; omega)⟩
  | d + 1, k, h => by
    have hk : k < L.length := by omega
    obtain ⟨h1, h2, _⟩ := flat_obj (f := f) hk (hL k hk)
    have h3 := offs_step (os := L) hk
    have h4 := offs_mono (os := L) (i := k + 1) (j := L.length) (by omega) (Nat.le_refl _)
    have h5 : 0 < oLong (nthG L k) := by unfold oLong; omega
    have hlt : offs L k < (L.flatMap (obWords f)).length := by rw [flat_len]; omega
    have hs : stepOk (L.flatMap (obWords f)) (offs L k) = true := stepOk_iff.2 ⟨h1, by rw [h2, flat_len]; omega⟩
    obtain ⟨i1, i2⟩ := begins_flat hL d (k + 1) (by omega)
    have he : offs L k + sLong (nth (L.flatMap (obWords f)) (offs L k)) = offs L (k + 1) := by rw [h2, h3]
    rw [begins_step hlt hs, fine_step hlt hs, he, i1, i2]
    refine ⟨?_, rfl⟩
    rw [List.range_succ_eq_map, List.map_cons, List.map_map]
    simp [Function.comp_def, Nat.add_assoc, Nat.add_comm 1]
theorem begins_all (hL : ∀ j, j < L.length → oFault (nthG L j) = 0) : (begins (L.flatMap (obWords f)) 0).length = L.length ∧ fine (L.flatMap (obWords f)) 0 = true ∧ ∀ k, k < L.length → st (L.flatMap (obWords f)) k = offs L k := by
  obtain ⟨h1, h2⟩ := begins_flat (f := f) hL L.length 0 (by omega)
  rw [offs_zero] at h1 h2
  refine ⟨by rw [h1]; simp, h2, fun k hk => ?_⟩
  unfold st
  rw [h1, nthG_get _ _ (by simpa using hk)]
  simp
end
section
variable {os : List Ob} {n : Nat}
theorem lay_total (hp : pErr os n = 0) : offs (layObs os n) (layObs os n).length = n := by
  obtain ⟨_, ht⟩ := pErr_zero hp
  unfold offs
  rw [List.take_length]
  unfold layObs
  rw [List.map_append, List.sum_append]
  have e1 : (os.map oLong).sum = offs os os.length := by unfold offs; rw [List.take_length]
  rw [e1]
  unfold restObs
  split
  · simp; omega
  · simp [oLong]; omega
theorem lay_faults (hn : n ≤ 256) (hp : pErr os n = 0) : ∀ j, j < (layObs os n).length → oFault (nthG (layObs os n) j) = 0 := by
  intro j hj
  obtain ⟨hf, ht⟩ := pErr_zero hp
  unfold layObs at hj ⊢
  rw [List.length_append] at hj
  by_cases h : j < os.length
  · rw [nthG_app_left _ _ h]; exact fault_zero hf j h
  · rw [nthG_app_right _ _ (by omega) hj]
    exact rest_fault (k := n - offs os os.length) (by omega) (by rw [nthG_get _ _ (by omega)]; exact List.getElem_mem _)
theorem lay_offs {j : Nat} (hj : j ≤ os.length) : offs (layObs os n) j = offs os j := by
  unfold offs layObs
  rw [List.take_append_of_le_length hj]
theorem lay_zero (h : layErr os (n : Int) = 0) : n ≤ 256 ∧ pErr os n = 0 ∧ ∀ j, j < os.length → refsFit (pMap os n os.length) (nthG os j) = true := by
  unfold layErr at h
  split at h
  · cases h
  · rename_i h0
    rw [Int.toNat_natCast] at h
    split at h
    · rename_i h1
      split at h
      · rename_i h2
        rw [List.all_eq_true] at h2
        exact ⟨by omega, h1, fun j hj => h2 _ (by rw [nthG_get _ _ hj]; exact List.getElem_mem _)⟩
      · cases h
    · rename_i h1; exact absurd h h1
/-- Every reference of what is laid finds its object. -/
theorem lay_ix (hn : n ≤ 256) (hp : pErr os n = 0) {i : Int} (hi : (pMap os n os.length i).isSome = true) : ixOf (layWords os n) ((pMap os n os.length i).getD 0) = some i := by
  obtain ⟨_, ht⟩ := pErr_zero hp
  obtain ⟨b1, _, b3⟩ := begins_all (f := pMap os n os.length) (lay_faults hn hp)
  by_cases h1 : i = -1
  · subst h1
    rw [pMap_null]
    exact ixOf_null
  · obtain ⟨y, hy⟩ := Option.isSome_iff_exists.1 hi
    obtain ⟨j, hj, rfl, hf⟩ := pMap_some os.length h1 hy
    rw [pMap_hit os.length ht (Nat.le_refl _) hj hf]
    have hjL : j < (layObs os n).length := by unfold layObs; simp; omega
    have e1 : st (layWords os n) j = offs os j := by
      have := b3 j hjL
      rw [lay_offs (by omega)] at this
      exact this
    have hfz := lay_faults hn hp j hjL
    have hvf : vF (nth (layWords os n) (st (layWords os n) j)) = false := by
      have h4 := (flat_obj (f := pMap os n os.length) hjL hfz).2.2.2.1
      rw [lay_offs (by omega)] at h4
      rw [e1]
      have h5 : nthG (layObs os n) j = nthG os j := by unfold layObs; exact nthG_app_left _ _ hj
      rw [h5, hf] at h4
      exact h4
    have := ixOf_hit (zs := layWords os n) (j := j) (by show j < (begins (layWords os n) 0).length; rw [show (begins (layWords os n) 0).length = (layObs os n).length from b1]; exact hjL) hvf
    rw [e1] at this
    exact this
theorem lay_fit (h : ∀ j, j < os.length → refsFit (pMap os n os.length) (nthG os j) = true) {j : Nat} (hj : j < (layObs os n).length) : refsFit (pMap os n os.length) (nthG (layObs os n) j) = true := by
  unfold layObs at hj ⊢
  rw [List.length_append] at hj
  by_cases hl : j < os.length
  · rw [nthG_app_left _ _ hl]; exact h j hl
  · rw [nthG_app_right _ _ (by omega) hj]
    exact rest_fit _ (by rw [nthG_get _ _ (by omega)]; exact List.getElem_mem _)
/-- What is laid is told as it was. -/
theorem lay_told (h : layErr os (n : Int) = 0) : (layWords os n).length = n ∧ arErr (layWords os n) = 0 ∧ (begins (layWords os n) 0).length = (layObs os n).length ∧ ∀ j, j < (layObs os n).length → obOf (layWords os n) (st (layWords os n) j) = nthG (layObs os n) j := by
  obtain ⟨hn, hp, hfit⟩ := lay_zero h
  have hfz := lay_faults hn hp
  obtain ⟨b1, b2, b3⟩ := begins_all (f := pMap os n os.length) hfz
  have hlen : (layWords os n).length = n := by
    show ((layObs os n).flatMap _).length = n
    rw [flat_len, lay_total hp]
  have hrefs : ∀ j, j < (layObs os n).length → refWords (layWords os n) (st (layWords os n) j) = (nthG (layObs os n) j).2.1.map (fun i => (pMap os n os.length i).getD 0) := fun j hj => by
    rw [show st (layWords os n) j = offs (layObs os n) j from b3 j hj]
    exact (flat_obj (f := pMap os n os.length) hj (hfz j hj)).2.2.2.2.1
  refine ⟨hlen, ?_, b1, fun j hj => ?_⟩
  · refine arErr_ok (spErr_ok (by omega) b2) ?_
    unfold refsOk
    refine all_of fun j hj => ?_
    have hj' : j < (layObs os n).length := by rw [← b1]; exact hj
    show refsIn (layWords os n) (st (layWords os n) j) = true
    unfold refsIn
    rw [hrefs j hj', List.all_eq_true]
    intro v hv
    obtain ⟨i, hi, rfl⟩ := List.mem_map.1 hv
    have hf := lay_fit hfit hj'
    unfold refsFit at hf
    rw [List.all_eq_true] at hf
    rw [lay_ix hn hp (hf i hi)]; rfl
  · obtain ⟨_, _, h3, h4, _, h6⟩ := flat_obj (f := pMap os n os.length) hj (hfz j hj)
    unfold obOf
    rw [hrefs j hj]
    rw [show st (layWords os n) j = offs (layObs os n) j from b3 j hj]
    have e1 : vT (nth (layWords os n) (offs (layObs os n) j)) = (nthG (layObs os n) j).1 := h3
    have e2 : vF (nth (layWords os n) (offs (layObs os n) j)) = (nthG (layObs os n) j).2.2.2 := h4
    have e3 : bodyWords (layWords os n) (offs (layObs os n) j) = (nthG (layObs os n) j).2.2.1 := h6
    rw [e1, e2, e3, List.map_map]
    have e4 : (nthG (layObs os n) j).2.1.map ((fun v => (ixOf (layWords os n) v).getD 0) ∘ (fun i => (pMap os n os.length i).getD 0)) = (nthG (layObs os n) j).2.1 := by
      have hf := lay_fit hfit hj
      unfold refsFit at hf
      rw [List.all_eq_true] at hf
      refine (List.map_congr_left (g := id) fun i hi => ?_).trans (List.map_id _)
      show (ixOf (layWords os n) ((pMap os n os.length i).getD 0)).getD 0 = i
      rw [lay_ix hn hp (hf i hi)]; rfl
    rw [e4]
end
end Go.Proofs.Ytjefbekdjgmmbaa
