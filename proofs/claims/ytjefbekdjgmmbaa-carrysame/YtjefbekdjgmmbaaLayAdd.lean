/-
  Contract of walk's add.
-/
import Derived.Test.YtjefbekdjgmmbaaLayParts
import Derived.Test.YtjefbekdjgmmbaaOwnF
namespace Go.Proofs.Ytjefbekdjgmmbaa
open Go.RowKit

/-- The words of a description, by a map of places. -/
def obWords (f : Int → Option Int) (o : Ob) : List Int := hWord o.2.1.length o.2.2.1.length o.1 o.2.2.2 :: (o.2.1.map (fun i => (f i).getD 0) ++ o.2.2.1)
def refsFit (f : Int → Option Int) (o : Ob) : Bool := o.2.1.all (fun i => (f i).isSome)

/-- What holds while add goes over the references. -/
structure AddI (f : Int → Option Int) (o : Ob) (w : World) (v : Value) (zs : List Int) (base g : Nat) (cs : Array Value) (k : Nat) (u : Value) (wr : World) : Prop where
  own : OwnF .u64 47 wr base u (zs ++ hWord o.2.1.length o.2.2.1.length o.1 o.2.2.2 :: (o.2.1.take k).map (fun i => (f i).getD 0))
  grew : Grew w v wr u
  ok : ∀ j, j < k → (f (nth o.2.1 j)).isSome = true
  box : Box wr g 41 cs
  ne : u.ownBlock ≠ some g
theorem AddI.next {f : Int → Option Int} {o : Ob} {w : World} {v : Value} {zs : List Int} {base g : Nat} {cs : Array Value} {k : Nat} {u u' : Value} {wr wr' : World} (h : AddI f o w v zs base g cs k u wr) (hg : Grew wr u wr' u') (hs : (f (nth o.2.1 k)).isSome = true)
    (hO : OwnF .u64 47 wr' base u' (zs ++ hWord o.2.1.length o.2.2.1.length o.1 o.2.2.2 :: (o.2.1.take (k + 1)).map (fun i => (f i).getD 0))) : AddI f o w v zs base g cs (k + 1) u' wr' :=
  have hb := h.box.grew hg h.ne
  ⟨hO, h.grew.trans hg, fun j hj => by
    rcases Nat.lt_succ_iff_lt_or_eq.1 hj with hj | hj
    · exact h.ok j hj
    · rw [hj]; exact hs, hb.1, hb.2⟩

/-- What add answers. -/
def AddP (f : Int → Option Int) (o : Ob) (v : Value) (zs : List Int) (base : Nat) (w : World) (e : Ending) (w' : World) : Prop :=
  (refsFit f o = true ∧ ∃ v', e = .returned (.tuple #[v', .int .i64 0]) ∧ OwnF .u64 47 w' base v' (zs ++ obWords f o) ∧ Grew w v w' v') ∨
  (refsFit f o = false ∧ e = .returned (.tuple #[.slice none 0 0, .int .i64 5]) ∧ ∃ v', Grew w v w' v')

set_option maxRecDepth 8000 in
set_option maxHeartbeats 4000000 in
theorem add_any (v : Value) (zs : List Int) (base gm N lo hi : Nat) (f : Int → Option Int) (r : Raw) (o : Ob) (w : World) (hO : OwnF .u64 47 w base v zs) (hbase : base ≤ w.heap.size) (hlen : zs.length ≤ 100000) (hz : oFault o = 0) (hV : ObV w lo hi r o) (hhi : hi ≤ w.heap.size)
    (h1 : Off v.ownBlock r.ra r.rn) (h2 : Off v.ownBlock r.ba r.bn) (hM : MapF Try.prog .i64 .u64 3 47 w gm N f) (hgm : v.ownBlock ≠ some gm) :
    Calls Try.prog 77 #[v, .agg #[.int .i64 r.t, .slice r.ra r.rn r.rc, .slice r.ba r.bn r.bc, .bool r.f], .map (some gm)] w (AddP f o v zs base w) := by
  have hfo := hFault_ok hz
  have hrn := hV.refs.1
  have hbn := hV.body.1
  have hrow := hO.own.rowLt
  have hz' : hFault r.rn r.bn r.t r.f = 0 := by rw [hV.tag, hV.free, ← hrn, ← hbn]; exact hz
  have HWD : Hid (hWord r.rn r.bn r.t r.f = hWord o.2.1.length o.2.2.1.length o.1 o.2.2.2) := Lib.hid (by rw [hV.tag, hV.free, hrn, hbn])
  have HH := Lib.hid (fun wx => header_any r wx (by unfold maxLen; omega) (by unfold maxLen; omega))
  have HW := Lib.hid (fun wx => word_any r.rn r.bn r.t r.f wx)
  rw [hz'] at HW
  have hwo : wordOr r.rn r.bn r.t r.f = hWord r.rn r.bn r.t r.f := by simp [wordOr, hz']
  rw [hwo, HWD.out] at HW
  have hwf := hWord_wf hz
  have hwf2 : (Lit.int .u64 (hWord o.2.1.length o.2.2.1.length o.1 o.2.2.2)).wf = true := wf_u64.2 (by omega)
  have HWF := Lib.hid hwf2
  obtain ⟨A0, c0, rfl, hc0, hA0, _⟩ := hO.arr
  have bb := (Below.refl _ w).alloc (Nat.le_refl _) (.cells #[.int .i64 r.t, .slice r.ra r.rn r.rc, .slice r.ba r.bn r.bc, .bool r.f] 41)
  have HBX := Lib.hid (Box.new w 41 #[.int .i64 r.t, .slice r.ra r.rn r.rc, .slice r.ba r.bn r.bc, .bool r.f])
  have HBB := Lib.hid bb
  have HO := Lib.hid hO
  have HV := Lib.hid hV
  have HM := Lib.hid hM
  have HROW := Lib.hid hrow
  have H1 := Lib.hid h1
  have H2 := Lib.hid h2
  have HGM := Lib.hid hgm
  have hn1 : r.rn ≤ 256 := by omega
  have hn2 : r.bn ≤ 256 := by omega
  have HRN := Lib.hid hrn
  have HBN := Lib.hid hbn
  clear hO hV hM hrow hz hz' hfo hrn hbn hwo hwf hwf2 hc0 hA0 bb h1 h2 hgm
  obtain ⟨V0, hV0⟩ : ∃ V, hWord o.2.1.length o.2.2.1.length o.1 o.2.2.2 = V := ⟨_, rfl⟩
  have HV0 := Lib.hid hV0
  rw [hV0] at HW HWF HWD
  clear hV0
  obtain ⟨L0, hL0⟩ : ∃ L, zs.length = L := ⟨_, rfl⟩
  have HL0 := Lib.hid hL0
  rw [hL0] at HO HROW H1 H2 HGM hlen ⊢
  clear hL0
  obtain ⟨t, ra, rn, rc, ba, bn, bc, fr⟩ := r
  simp only at *
  go_enter Try.func77, Try.ntmps77
  go_wp2_with fail
  refine (HH.out _).mono ?_
  rintro e w1 ⟨rfl, b1⟩
  have HB1 := Lib.hid (HBB.out.trans (b1.mono HBB.out.size))
  have BX1 := Lib.hid (HBX.out.below b1 HBX.out.lt)
  clear b1
  go_wp2_with fail
  refine (HW.out _).mono ?_
  rintro e w2 ⟨rfl, b2⟩
  have HB2 := Lib.hid (HB1.out.trans (b2.mono HB1.out.size))
  have BX2 := Lib.hid (BX1.out.below b2 BX1.out.lt)
  clear b2
  obtain ⟨v', w3, hrun, hO', hG'⟩ := (HO.out.below HB2.out (Nat.le_refl _)).pushF (P := Try.prog) (t := 22) (ty := 22) Try.underlying22 u64_info (by omega) HWF.out (by have := HL0.out; omega) (Nat.le_trans hbase HB2.out.size)
  have hneg : (Value.slice A0 L0 c0).ownBlock ≠ some w.heap.size := fun e => by have := HROW.out _ e; omega
  have hb3 := BX2.out.grew hG' hneg
  have hI : AddI f o w (.slice A0 L0 c0) zs base w.heap.size #[.int .i64 t, .slice ra rn rc, .slice ba bn bc, .bool fr] 0 v' w3 :=
    ⟨by rw [HV0.out]; simpa using hO', (Grew.of_below HB2.out _).trans hG', fun j hj => absurd hj (by omega), hb3.1, hb3.2⟩
  have HI := Lib.hid hI
  have HR := Lib.hid hrun
  have y1 : w3.cell? ⟨w.heap.size, 1, none⟩ = some (.slice ra rn rc) := hb3.1.cell 1
  clear hrun hO' hG' hneg hb3 hI HB1 BX1
  go_wp2_with (at_builtin; refine wpList_append_run rfl (.tmp 23) (.tmp 25) 22 rfl rfl rfl HR.out ?_)
  clear y1
  go_loopw [0, 30] (fun u i wr => ∃ k : Nat, k ≤ rn ∧ i = .int .i64 k ∧ Hid (AddI f o w (.slice A0 L0 c0) zs base w.heap.size #[.int .i64 t, .slice ra rn rc, .slice ba bn bc, .bool fr] k u wr)) (fun _ i _ => rn - (intOf i).toNat)
  case atStart => exact ⟨0, by omega, rfl, HI⟩
  case round =>
    obtain ⟨k, hk, rfl, hJ⟩ := hrel
    rename_i u0
    clear HI HR BX2
    obtain ⟨hVw, o1, o2⟩ := HV.out.grew hJ.out.grew H1.out H2.out hhi
    obtain ⟨hMw, og⟩ := HM.out.grew hJ.out.grew HGM.out
    have hbs := Nat.le_trans hbase hJ.out.grew.size
    by_cases hlt : k < rn
    · obtain ⟨b4, o4, rfl, _, hcs⟩ := hVw.refs.2.2 (by show 0 < rn; omega)
      have hc := hcs k hlt
      have hwf := hVw.refs.2.1 (nth o.2.1 k) (by rw [nth_get _ _ (by rw [HRN.out]; exact hlt)]; exact List.getElem_mem _)
      have hlk := hMw.lookOk mapT2 hwf
      have hwv := hMw.wf mapT2 hwf
      have htk : o.2.1.take (k + 1) = o.2.1.take k ++ [nth o.2.1 k] := by
        rw [nth_get _ _ (by rw [HRN.out]; exact hlt), List.take_succ_eq_append_getElem]
      clear hcs hwf
      cases ho : (f (nth o.2.1 k)).isSome
      · rw [ho] at hlk
        have HRF : Hid (refsFit f o = false) := Lib.hid (by
          unfold refsFit
          rw [List.all_eq_false]
          exact ⟨nth o.2.1 k, by rw [nth_get _ _ (by rw [HRN.out]; exact hlt)]; exact List.getElem_mem _, by rw [ho]; decide⟩)
        clear ho htk hwv hMw hVw
        generalize (f (nth o.2.1 k)).getD 0 = Y at *
        generalize nth o.2.1 k = X at *
        go_wp2
        go_ret2
        exact .inr ⟨HRF.out, rfl, _, hJ.out.grew⟩
      · rw [ho] at hlk
        obtain ⟨v', w4, hrun, hO', hG'⟩ := hJ.out.own.pushF (P := Try.prog) (t := 22) (ty := 22) Try.underlying22 u64_info (by omega) hwv (by have := HL0.out; simp; omega) hbs
        have hN := hJ.out.next hG' ho (by rw [htk, List.map_append]; simpa using hO')
        have HN := Lib.hid hN
        have HR := Lib.hid hrun
        clear ho htk hwv hMw hVw hrun hO' hG' hN
        generalize (f (nth o.2.1 k)).getD 0 = Y at *
        generalize nth o.2.1 k = X at *
        go_wp2_with (at_builtin; refine wpList_append_run rfl (.tmp 42) (.tmp 44) 22 rfl rfl rfl HR.out ?_)
        go_roundw
        case rel => exact ⟨k + 1, by omega, by go_num, HN⟩
        case measure => simp [intOf]; omega
    · obtain rfl : k = rn := by omega
      have hO9 := hJ.out.own
      rw [List.take_of_length_le (by rw [HRN.out]; omega)] at hO9
      obtain ⟨v', w4, hrun, hO', hG'⟩ := hO9.catF (P := Try.prog) (t := 22) (ty := 22) (c := bc) Try.underlying22 u64_info (by omega) hVw.body (by have := HL0.out; have := HRN.out; simp; omega) hbs
      have HO9 : Hid (OwnF .u64 47 w4 base v' (zs ++ obWords f o)) := Lib.hid (by unfold obWords; simpa using hO')
      have HG9 := Lib.hid (hJ.out.grew.trans hG')
      have HR := Lib.hid hrun
      have HRF : Hid (refsFit f o = true) := Lib.hid (by
        unfold refsFit
        rw [List.all_eq_true]
        intro x hx
        obtain ⟨i, hi, rfl⟩ := List.getElem_of_mem hx
        have := hJ.out.ok i (by rw [HRN.out] at hi; exact hi)
        rwa [nth_get _ _ hi] at this)
      have y2 : wr.cell? ⟨w.heap.size, 2, none⟩ = some (.slice ba bn bc) := hJ.out.box.cell 2
      clear hrun hO' hG' hO9 hMw hVw
      go_wp2_with (at_builtin; refine wpList_append_run rfl (.tmp 47) (.tmp 49) 22 rfl rfl rfl HR.out ?_)
      go_ret2
      exact .inl ⟨HRF.out, _, rfl, HO9.out, HG9.out⟩
end Go.Proofs.Ytjefbekdjgmmbaa
