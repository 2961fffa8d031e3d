/-
  Parts of the proof of SameForms: SameH, SameJ.
-/
import Derived.Test.YtjefbekdjgmmbaaSameFormsAq
import Derived.Test.YtjefbekdjgmmbaaSameFormsAt
namespace Go.Proofs.Ytjefbekdjgmmbaa
open Go.RowKit
/-- Two descriptions are one, but for being free. -/
def eqOb (o p : Ob) : Bool := decide (o.1 = p.1) && decide (o.2.1 = p.2.1) && decide (o.2.2.1 = p.2.2.1)
set_option maxRecDepth 8000 in
set_option maxHeartbeats 1000000 in
theorem sameEqual_any (r q : Raw) (o p : Ob) (lo lo' : Nat) (w : World) (hr : ObV w lo w.heap.size r o) (hq : ObV w lo' w.heap.size q p) (h1 : r.rn ≤ maxLen ∧ r.bn ≤ maxLen) (h2 : q.rn ≤ maxLen ∧ q.bn ≤ maxLen) :
    Calls Try.prog 37 #[rawV r, rawV q] w fun e w' => e = .returned (.bool (eqOb o p)) ∧ Below w.heap.size w w' := by
  have e1 : r.t = o.1 := hr.tag
  have e2 : q.t = p.1 := hq.tag
  have hR := hr.refs
  have hQ := hq.refs
  have hS := hr.body
  have hT := hq.body
  obtain ⟨o0, o1, o2, o3⟩ := o
  obtain ⟨p0, p1, p2, p3⟩ := p
  obtain ⟨t, ra, rn, rc, ba, bn, bc, f⟩ := r
  obtain ⟨t', ra', rn', rc', ba', bn', bc', f'⟩ := q
  simp only at e1 e2 hR hQ hS hT h1 h2
  subst e1 e2
  obtain ⟨E, hE⟩ : ∃ E, eqOb (t, o1, o2, o3) (t', p1, p2, p3) = E := ⟨_, rfl⟩
  rw [hE]
  have HE : Hid (E = (decide (t = t') && decide (o1 = p1) && decide (o2 = p2))) := hE.symm
  unfold rawV
  simp only
  have a1 := (Below.refl _ w).alloc (Nat.le_refl _) (.cells #[.int .i64 t, .slice ra rn rc, .slice ba bn bc, .bool f] 41)
  have a2 := a1.alloc (by simp) (.cells #[.int .i64 t', .slice ra' rn' rc', .slice ba' bn' bc', .bool f'] 41)
  have n1 := (Box.new w 41 #[.int .i64 t, .slice ra rn rc, .slice ba bn bc, .bool f]).alloc (.cells #[.int .i64 t', .slice ra' rn' rc', .slice ba' bn' bc', .bool f'] 41)
  have n2 := Box.new (w.alloc (.cells #[.int .i64 t, .slice ra rn rc, .slice ba bn bc, .bool f] 41)) 41 #[.int .i64 t', .slice ra' rn' rc', .slice ba' bn' bc', .bool f']
  rw [show (w.alloc (.cells #[.int .i64 t, .slice ra rn rc, .slice ba bn bc, .bool f] 41)).heap.size = w.heap.size + 1 by simp] at n2
  have HI := Lib.hid (fun wx (h : Below w.heap.size w wx) => equalInts ra ra' rn rn' rc rc' w.heap.size _ _ wx (hR.below h (Nat.le_refl _)) (hQ.below h (Nat.le_refl _)) h1.1 h2.1)
  have HW := Lib.hid (fun wx (h : Below w.heap.size w wx) => equalWords ba ba' bn bn' bc bc' w.heap.size _ _ wx (hS.below h (Nat.le_refl _)) (hT.below h (Nat.le_refl _)) h1.2 h2.2)
  have N1 := Lib.hid n1
  have N2 := Lib.hid n2
  have HB := Lib.hid a2
  clear hr hq hR hQ hS hT n1 n2 a1 a2 h1 h2 hE
  go_enter Try.func37, Try.ntmps37
  go_upto_region 1 with fail
  generalize ((w.alloc (.cells #[.int .i64 t, .slice ra rn rc, .slice ba bn bc, .bool f] 41)).alloc (.cells #[.int .i64 t', .slice ra' rn' rc', .slice ba' bn' bc', .bool f'] 41)) = W at *
  have c0 : W.cell? ⟨w.heap.size, 0, none⟩ = some (.int .i64 t) := N1.out.cell 0
  have c1 : W.cell? ⟨w.heap.size, 1, none⟩ = some (.slice ra rn rc) := N1.out.cell 1
  have c2 : W.cell? ⟨w.heap.size, 2, none⟩ = some (.slice ba bn bc) := N1.out.cell 2
  have d0 : W.cell? ⟨w.heap.size + 1, 0, none⟩ = some (.int .i64 t') := N2.out.cell 0
  have d1 : W.cell? ⟨w.heap.size + 1, 1, none⟩ = some (.slice ra' rn' rc') := N2.out.cell 1
  have d2 : W.cell? ⟨w.heap.size + 1, 2, none⟩ = some (.slice ba' bn' bc') := N2.out.cell 2
  by_cases ht : t = t'
  · subst ht
    have e0 : (t == t) = true := by simp
    obtain ⟨b1, hb1⟩ : ∃ b, decide (o1 = p1) = b := ⟨_, rfl⟩
    rw [hb1] at HI HE
    clear hb1
    obtain ⟨b2, hb2⟩ : ∃ b, decide (o2 = p2) = b := ⟨_, rfl⟩
    rw [hb2] at HW HE
    clear hb2
    go_wp2_with fail
    refine (HI.out _ HB.out).mono ?_
    rintro e w1 ⟨rfl, q1, rfl⟩
    cases b1
    · go_wp2
      go_ret
      exact ⟨by rw [HE.out]; simp, below_drewN HB.out _⟩
    · go_wp2_with fail
      refine (HW.out _ (below_drewN HB.out q1)).mono ?_
      rintro e w1 ⟨rfl, q2, rfl⟩
      go_wp2
      go_ret
      exact ⟨by rw [HE.out]; simp, below_drewN HB.out _⟩
  · have e0 : (t == t') = false := by simpa using ht
    have HT := Lib.hid ht
    clear ht
    go_wp2
    go_ret
    exact ⟨by rw [HE.out]; simp [HT.out], HB.out⟩
/-- What EqualFunc answers. -/
def EqFP (n n' : Nat) (os ps : List Ob) (w : World) (e : Ending) (w' : World) : Prop := ∃ b : Bool, e = .returned (.bool b) ∧ Below w.heap.size w w' ∧ (b = true ↔ n = n' ∧ ∀ j, j < n → eqOb (nthG os j) (nthG ps j) = true)
set_option maxRecDepth 8000 in
set_option maxHeartbeats 2000000 in
theorem sameEqF_any (A A' : Option Addr) (n n' c c' B lo lo' : Nat) (l l' : List Raw) (os ps : List Ob) (w : World) (hn : n ≤ maxLen) (hn' : n' ≤ maxLen) (hB : B ≤ w.heap.size) (hl : ObsAt w lo B A n l os) (hl' : ObsAt w lo' B A' n' l' ps)
    (h1 : ∀ j, j < n → (nthG l j).rn ≤ maxLen ∧ (nthG l j).bn ≤ maxLen) (h2 : ∀ j, j < n' → (nthG l' j).rn ≤ maxLen ∧ (nthG l' j).bn ≤ maxLen) :
    Calls Try.prog 31 #[.slice A n c, .slice A' n' c', .func (.func 37) #[] #[]] w (EqFP n n' os ps w) := by
  unfold maxLen at hn hn'
  have HL := Lib.hid hl.2.1
  have HL' := Lib.hid hl'.2.1
  have HO := Lib.hid hl.2.2
  have HO' := Lib.hid hl'.2.2
  have H1 := Lib.hid h1
  have H2 := Lib.hid h2
  have hcall := Try.call37
  clear hl hl' h1 h2
  go_enter Try.func31, Try.ntmps31
  by_cases hnn : n = n'
  · subst hnn
    have hne : ((n : Int) != (n : Int)) = false := by simp
    go_wp2_with fail
    go_loopw [17] (fun i wr => ∃ k : Nat, k ≤ n ∧ i = .int .i64 k ∧ Hid (Below w.heap.size w wr) ∧ Hid (∀ j, j < k → eqOb (nthG os j) (nthG ps j) = true)) (fun i _ => n - (intOf i).toNat)
    case atStart => exact ⟨0, Nat.zero_le _, rfl, Below.refl _ _, fun j hj => absurd hj (by omega)⟩
    case round =>
      obtain ⟨k, hk, rfl, hBw, HE⟩ := hrel
      by_cases hlt : k < n
      · obtain ⟨b, off, rfl, hb, x0, x1, x2, x3⟩ := (HL.out.below hBw.out hB).raw hlt
        obtain ⟨b', off', rfl, hb', y0, y1, y2, y3⟩ := (HL'.out.below hBw.out hB).raw hlt
        have hr := (HO.out k hlt).below hBw.out hB
        have hq := (HO'.out k hlt).below hBw.out hB
        have hm := H1.out k hlt
        have hm' := H2.out k hlt
        have hsz := hBw.out.size
        generalize nthG l k = r at *
        generalize nthG l' k = q at *
        have a1 := (Below.refl _ wr).alloc (Nat.le_refl _) (.cells #[.int .i64 r.t, .slice r.ra r.rn r.rc, .slice r.ba r.bn r.bc, .bool r.f] 41)
        have a2 := a1.alloc (by simp) (.cells #[.int .i64 q.t, .slice q.ra q.rn q.rc, .slice q.ba q.bn q.bc, .bool q.f] 41)
        have HC := Lib.hid (sameEqual_any r q (nthG os k) (nthG ps k) lo lo' _ ((hr.below a2 (by omega)).more (Nat.le_trans (by omega) a2.size)) ((hq.below a2 (by omega)).more (Nat.le_trans (by omega) a2.size)) hm hm')
        unfold rawV at HC
        obtain ⟨t, ra, rn, rc, ba, bn, bc, f⟩ := r
        obtain ⟨t', ra', rn', rc', ba', bn', bc', f'⟩ := q
        simp only at x0 x1 x2 x3 y0 y1 y2 y3 a1 a2 HC
        have z0 := (a1.cell (p := ⟨b', off' + k * 4, none⟩) (show b' < wr.heap.size by omega)).trans y0
        have z1 := (a1.cell (p := ⟨b', off' + k * 4 + 1, none⟩) (show b' < wr.heap.size by omega)).trans y1
        have z2 := (a1.cell (p := ⟨b', off' + k * 4 + 2, none⟩) (show b' < wr.heap.size by omega)).trans y2
        have z3 := (a1.cell (p := ⟨b', off' + k * 4 + 3, none⟩) (show b' < wr.heap.size by omega)).trans y3
        have HB2 := Lib.hid a2
        obtain ⟨V, hV⟩ : ∃ V, eqOb (nthG os k) (nthG ps k) = V := ⟨_, rfl⟩
        have HV := Lib.hid hV
        rw [hV] at HC
        clear hr hq a1 a2 hm hm' hsz hV
        go_wp2_with fail
        refine HC.out.mono ?_
        rintro e w1 ⟨rfl, b1⟩
        have HB3 := Lib.hid (hBw.out.trans ((HB2.out.trans (b1.mono HB2.out.size)).mono hBw.out.size))
        clear x0 x1 x2 x3 y0 y1 y2 y3 z0 z1 z2 z3 b1
        cases V
        · go_wp2
          go_ret
          exact ⟨false, rfl, HB3.out, by simp, fun h => by have := h.2 k hlt; rw [HV.out] at this; cases this⟩
        · have HN : Hid (∀ j, j < k + 1 → eqOb (nthG os j) (nthG ps j) = true) := fun j hj => by
            rcases Nat.lt_succ_iff_lt_or_eq.1 hj with h | h
            · exact HE.out j h
            · rw [h]; exact HV.out
          go_wp2
          go_roundw
          case rel => exact ⟨k + 1, by omega, by go_num, HB3, HN⟩
          case measure => simp [intOf]; omega
      · obtain rfl : k = n := by omega
        go_wp2
        go_ret
        exact ⟨true, rfl, hBw.out, fun _ => ⟨rfl, HE.out⟩, fun _ => rfl⟩
  · have hne : ((n : Int) != (n' : Int)) = true := by simpa using fun h : (n : Int) = n' => hnn (by omega)
    have HNN := Lib.hid hnn
    clear hnn
    go_wp2
    go_ret
    exact ⟨false, rfl, Below.refl _ _, by simp, fun h => absurd h.1 HNN.out⟩
/-- The objects of a form are not free. -/
theorem form_used {zs fr : List Int} : ∀ o ∈ formO zs fr, o.2.2.2 = false := fun o ho => by
  unfold formO obsC at ho
  obtain ⟨x, _, rfl⟩ := List.mem_map.1 ho
  rfl
/-- Forms are one if their descriptions are. -/
theorem forms_one {zs fr ys gr : List Int} : ((formO zs fr).length = (formO ys gr).length ∧ ∀ j, j < (formO zs fr).length → eqOb (nthG (formO zs fr) j) (nthG (formO ys gr) j) = true) ↔ formO zs fr = formO ys gr := by
  constructor
  · rintro ⟨h1, h2⟩
    refine List.ext_getElem h1 fun j ha hb => ?_
    have h3 := h2 j ha
    rw [nthG_get _ _ ha, nthG_get _ _ hb] at h3
    have f1 := form_used _ (List.getElem_mem ha)
    have f2 := form_used _ (List.getElem_mem hb)
    unfold eqOb at h3
    simp only [Bool.and_eq_true, decide_eq_true_eq] at h3
    obtain ⟨⟨h3, h4⟩, h5⟩ := h3
    exact Prod.ext h3 (Prod.ext h4 (Prod.ext h5 (f1.trans f2.symm)))
  · intro h
    rw [h]
    exact ⟨rfl, fun j _ => by unfold eqOb; simp⟩
set_option maxRecDepth 8000 in
set_option maxHeartbeats 2000000 in
theorem alike_any : AlikeC := by
  intro A F B G n c nf cf m d ng cg zs fr ys gr w ha hb
  have HF := Lib.hid (form_any A F n c nf cf zs fr w ha)
  have HG := Lib.hid (fun wx (h : Below w.heap.size w wx) => form_any B G m d ng cg ys gr wx (hb.later h))
  unfold SFormP at HF HG
  clear ha hb
  go_enter Try.func11, Try.ntmps11
  by_cases h0 : fromE zs fr = 0
  · have H0 := Lib.hid h0
    rw [h0] at HF
    clear h0
    go_wp2_with fail
    refine HF.out.mono ?_
    rintro e w1 ⟨D, p, pc, P, k, kc, raws, rfl, b1, hF⟩
    have hba := (Below.refl _ w1).alloc (Nat.le_refl _) (.cells #[.slice D p pc, .slice P k kc] 26)
    have HX := Lib.hid (Box.new w1 26 #[.slice D p pc, .slice P k kc])
    have HB := Lib.hid (bthen b1 hba)
    have HFI := Lib.hid (hF.later hba)
    have HC := Lib.hid (HG.out _ HB.out)
    clear b1 hF hba HF HG
    by_cases h1 : fromE ys gr = 0
    · have H1 := Lib.hid h1
      rw [h1] at HC
      clear h1
      go_wp2_with fail
      refine HC.out.mono ?_
      rintro e w2 ⟨D', p', pc', P', k', kc', raws', rfl, b2, hG⟩
      have hba := (Below.refl _ w2).alloc (Nat.le_refl _) (.cells #[.slice D' p' pc', .slice P' k' kc'] 26)
      have hbb := bthen b2 hba
      have HB2 := Lib.hid (bthen HB.out hbb)
      have hX := HX.out.below hbb HX.out.lt
      have hY := Box.new w2 26 #[.slice D' p' pc', .slice P' k' kc']
      have HF2 := Lib.hid (HFI.out.later hbb)
      have HG2 := Lib.hid (hG.later hba)
      clear b2 hG hba hbb HX HB HFI HC
      have f0 : (w2.alloc (.cells #[.slice D' p' pc', .slice P' k' kc'] 26)).cell? ⟨w1.heap.size, 0, none⟩ = some (.slice D p pc) := hX.cell 0
      have f1 : (w2.alloc (.cells #[.slice D' p' pc', .slice P' k' kc'] 26)).cell? ⟨w1.heap.size, 1, none⟩ = some (.slice P k kc) := hX.cell 1
      have g0 : (w2.alloc (.cells #[.slice D' p' pc', .slice P' k' kc'] 26)).cell? ⟨w2.heap.size, 0, none⟩ = some (.slice D' p' pc') := hY.cell 0
      have g1 : (w2.alloc (.cells #[.slice D' p' pc', .slice P' k' kc'] 26)).cell? ⟨w2.heap.size, 1, none⟩ = some (.slice P' k' kc') := hY.cell 1
      clear hX hY
      go_upto_region 7 with fail
      generalize (w2.alloc (.cells #[.slice D' p' pc', .slice P' k' kc'] 26)) = w3 at *
      have HQ := Lib.hid (equalInts P P' k k' kc kc' w3.heap.size _ _ w3 HF2.out.places HG2.out.places (by unfold maxLen; have := HF2.out.kz; omega) (by unfold maxLen; have := HG2.out.kz; omega))
      have HE := Lib.hid (fun wx (h : Below w3.heap.size w3 wx) => sameEqF_any D D' p p' pc pc' wx.heap.size 0 0 raws raws' _ _ wx (by unfold maxLen; have := HF2.out.mz; omega) (by unfold maxLen; have := HG2.out.mz; omega) (Nat.le_refl _) (HF2.out.objs.laterS h) (HG2.out.objs.laterS h) HF2.out.lens HG2.out.lens)
      have hr : aliB zs fr ys gr = (decide (formO zs fr = formO ys gr) && decide (formF zs fr = formF ys gr)) := by
        rw [aliB_ok (aliE_zero.2 ⟨H0.out, H1.out⟩)]
        unfold sameB
        rw [Bool.decide_and]
      have hpl : (formO zs fr).length = p := by have := HF2.out.objs.1; rwa [sfO_ok H0.out] at this
      have hpl' : (formO ys gr).length = p' := by have := HG2.out.objs.1; rwa [sfO_ok H1.out] at this
      rw [sfF_ok H0.out, sfF_ok H1.out] at HQ
      rw [sfO_ok H0.out, sfO_ok H1.out] at HE
      have HR := Lib.hid hr
      have HP := Lib.hid hpl
      have HP' := Lib.hid hpl'
      obtain ⟨V, hV⟩ : ∃ V, decide (formF zs fr = formF ys gr) = V := ⟨_, rfl⟩
      have HV := Lib.hid hV
      rw [hV] at HQ
      clear hr hpl hpl' hV HF2 HG2
      go_wp2_with fail
      refine HQ.out.mono ?_
      rintro e w4 ⟨rfl, q4, rfl⟩
      cases V
      · go_wp2
        go_ret2
        unfold AlikeP
        rw [aliE_zero.2 ⟨H0.out, H1.out⟩, HR.out, HV.out, Bool.and_false]
        exact ⟨rfl, below_drewN HB2.out _⟩
      · go_wp2_with fail
        refine (HE.out _ (below_drewN (Below.refl _ _) q4)).mono ?_
        rintro e w5 ⟨b, rfl, b5, hb⟩
        have HB5 := Lib.hid (bthen (below_drewN HB2.out q4) b5)
        have HBB := Lib.hid hb
        clear b5 hb
        go_wp2
        go_ret2
        unfold AlikeP
        rw [aliE_zero.2 ⟨H0.out, H1.out⟩, HR.out, HV.out, Bool.and_true]
        refine ⟨?_, HB5.out⟩
        have hd : decide (formO zs fr = formO ys gr) = b := by
          rw [Bool.eq_iff_iff, decide_eq_true_eq, HBB.out, ← forms_one, HP.out, HP'.out]
        rw [hd]
        rfl
    · have hbz : (fromE ys gr != 0) = true := by simpa using h1
      have H1 := Lib.hid h1
      clear h1
      go_wp2_with fail
      refine HC.out.mono ?_
      rintro e w2 ⟨D', p', pc', P', k', kc', raws', rfl, b2, _⟩
      have HB2 := Lib.hid (bthen HB.out b2)
      clear b2 HC HB HX HFI
      go_wp2
      go_ret2
      unfold AlikeP
      have he : aliE zs fr ys gr = fromE ys gr := aliE_two H0.out
      rw [aliB_bad (by rw [he]; exact H1.out), he]
      exact ⟨rfl, HB2.out.alloc HB2.out.size _⟩
  · have hbz : (fromE zs fr != 0) = true := by simpa using h0
    have H0 := Lib.hid h0
    clear h0 HG
    go_wp2_with fail
    refine HF.out.mono ?_
    rintro e w1 ⟨D, p, pc, P, k, kc, raws, rfl, b1, _⟩
    have HB := Lib.hid b1
    clear b1 HF
    go_wp2
    go_ret2
    unfold AlikeP
    have he : aliE zs fr ys gr = fromE zs fr := aliE_one H0.out
    rw [aliB_bad (by rw [he]; exact H0.out), he]
    exact ⟨rfl, HB.out.alloc HB.out.size _⟩
end Go.Proofs.Ytjefbekdjgmmbaa
namespace Go.Proofs.Ytjefbekdjgmmbaa
open Go.RowKit
/-- The words of the laid objects that are not free, by their numbers; of the first 'k'. -/
def wdT (zs : List Int) (k : Nat) : Int → Option Int := fun i => if 0 ≤ i ∧ i < k ∧ vF (nth zs (st zs i.toNat)) = false then some (st zs i.toNat : Int) else none
section
variable {zs : List Int} {k : Nat}
theorem wdT_zero : wdT zs 0 = fun _ => none := by
  funext i
  unfold wdT
  rw [if_neg (by omega)]
theorem wdT_yes (h : vF (nth zs (st zs k)) = false) : wdT zs (k + 1) = put (wdT zs k) k (st zs k) := by
  funext i
  unfold wdT put
  by_cases e : i = (k : Int)
  · subst e
    rw [if_pos (by rw [Int.toNat_natCast]; exact ⟨by omega, by omega, h⟩), if_pos rfl, Int.toNat_natCast]
  · rw [if_neg e]
    have : (0 ≤ i ∧ i < (k + 1 : Nat) ∧ vF (nth zs (st zs i.toNat)) = false) ↔ (0 ≤ i ∧ i < k ∧ vF (nth zs (st zs i.toNat)) = false) := ⟨fun ⟨a, b, c⟩ => ⟨a, by omega, c⟩, fun ⟨a, b, c⟩ => ⟨a, by omega, c⟩⟩
    simp only [this]
theorem wdT_no (h : vF (nth zs (st zs k)) = true) : wdT zs (k + 1) = wdT zs k := by
  funext i
  unfold wdT
  by_cases e : i = (k : Int)
  · subst e
    rw [if_neg (by rw [Int.toNat_natCast, h]; simp), if_neg (by omega)]
  · have : (0 ≤ i ∧ i < (k + 1 : Nat) ∧ vF (nth zs (st zs i.toNat)) = false) ↔ (0 ≤ i ∧ i < k ∧ vF (nth zs (st zs i.toNat)) = false) := ⟨fun ⟨a, b, c⟩ => ⟨a, by omega, c⟩, fun ⟨a, b, c⟩ => ⟨a, by omega, c⟩⟩
    simp only [this]
end
/-- Of all of them: where the object begins. -/
theorem wdT_all {os : List Ob} {n : Nat} (h : layErr os (n : Int) = 0) : wdT (layWords os n) (begins (layWords os n) 0).length = fun i => if atB os i = true then some (offs os i.toNat : Int) else none := by
  obtain ⟨h1, h2, h3, h4⟩ := lay_told h
  obtain ⟨hn, hp, _⟩ := lay_zero h
  have hst := (begins_all (f := pMap os n os.length) (lay_faults hn hp)).2.2
  have hlen : (layObs os n).length = os.length + (restObs (n - offs os os.length)).length := by unfold layObs; rw [List.length_append]
  funext i
  unfold wdT
  by_cases hi : 0 ≤ i ∧ i < ((layObs os n).length : Int)
  · obtain ⟨j, rfl⟩ := Int.eq_ofNat_of_zero_le hi.1
    rw [Int.toNat_natCast]
    have hj : j < (layObs os n).length := by omega
    have hf : vF (nth (layWords os n) (st (layWords os n) j)) = (nthG (layObs os n) j).2.2.2 := by rw [← h4 j hj]; rfl
    by_cases hjo : j < os.length
    · have he : nthG (layObs os n) j = nthG os j := by unfold layObs; exact nthG_app_left _ _ hjo
      rw [he] at hf
      have ho : st (layWords os n) j = offs os j := by
        rw [show st (layWords os n) j = offs (layObs os n) j from hst j hj]
        exact lay_offs (by omega)
      rw [hf, ho]
      unfold atB
      rw [Int.toNat_natCast]
      cases hq : (nthG os j).2.2.2
      · rw [if_pos ⟨by omega, by omega, rfl⟩, if_pos (by simp; omega)]
      · rw [if_neg (by simp), if_neg (by simp)]
    · have he : (nthG (layObs os n) j).2.2.2 = true := by
        unfold layObs at hj ⊢
        rw [nthG_app_right _ _ (by omega) (by rw [← List.length_append]; exact hj)]
        have hm : nthG (restObs (n - offs os os.length)) (j - os.length) ∈ restObs (n - offs os os.length) := by
          rw [nthG_get _ _ (by rw [List.length_append] at hj; omega)]
          exact List.getElem_mem _
        generalize nthG (restObs (n - offs os os.length)) (j - os.length) = o at *
        unfold restObs at hm
        split at hm
        · cases hm
        · rw [List.mem_singleton.1 hm]
      rw [hf, he, if_neg (by simp), if_neg (by unfold atB; simp; omega)]
  · rw [if_neg (by rw [h3]; omega), if_neg]
    unfold atB
    simp only [Bool.and_eq_true, decide_eq_true_eq]
    omega
/-- What holds while the words of the laid objects are noted. -/
structure B1I (zs : List Int) (w2 : World) (gm k : Nat) (wr : World) : Prop where
  map : MapF Try.prog .i64 .i64 3 3 wr gm k (wdT zs k)
  below : Below gm w2 wr
set_option maxRecDepth 8000 in
set_option maxHeartbeats 4000000 in
theorem build_any : BuildC := by
  intro D F m c k d raws os ps n w h hn
  have b0 := (Below.refl _ w).alloc (Nat.le_refl _) (.cells #[.slice D m c, .slice F k d] 26)
  have HX := Lib.hid (Box.new w 26 #[.slice D m c, .slice F k d])
  have h1 := h.later b0
  have HL := Lib.hid (layF_any D m c (w.alloc (.cells #[.slice D m c, .slice F k d] 26)).heap.size 0 n raws os (w.alloc (.cells #[.slice D m c, .slice F k d] 26)) hn h.mz (Nat.le_refl _) h1.objs h1.lens)
  unfold LayF at HL
  have HP := Lib.hid h1.places
  have HK := Lib.hid h.kz
  have HB := Lib.hid b0
  have f0 : (w.alloc (.cells #[.slice D m c, .slice F k d] 26)).cell? ⟨w.heap.size, 0, none⟩ = some (.slice D m c) := HX.out.cell 0
  have hmm := @run_makeMap Try.prog
  clear b0 h h1
  obtain ⟨E, hE⟩ : ∃ E, layErr os n = E := ⟨_, rfl⟩
  rw [hE] at HL
  have HE := Lib.hid hE
  clear hE
  go_enter Try.func15, Try.ntmps15
  go_upto_region 1 with fail
  generalize (w.alloc (.cells #[.slice D m c, .slice F k d] 26)) = W at *
  by_cases h0 : E = 0
  · subst h0
    go_wp2_with fail
    refine HL.out.mono ?_
    rintro e w1 ⟨b1, A, q, ac, rfl, hqa, hl, _⟩
    rcases hl with ⟨hl, _⟩ | ⟨_, hq, hA⟩
    · exact absurd rfl hl
    have hnr : ¬ (n < 0 ∨ 256 < n) := fun hc => by have := HE.out; rw [layErr_range hc] at this; cases this
    obtain ⟨N, rfl⟩ := Int.eq_ofNat_of_zero_le (show 0 ≤ n by omega)
    rw [Int.toNat_natCast] at hq hA
    obtain ⟨t1, t2, t3, t4⟩ := lay_told HE.out
    have hqN : q = N := by rw [hq, t1]
    have HWA := Lib.hid (wdT_all HE.out)
    have hsp := (arErr_zero t2).1
    have hL := spList_ok hsp
    obtain ⟨ms, hms⟩ : ∃ ms, (begins (layWords os N) 0).length = ms := ⟨_, rfl⟩
    have hml : (spList (layWords os N)).length = ms := by rw [hL, List.length_map, hms]
    have hbl := begins_len (zs := layWords os N) (a := 0)
    have hms2 : ms ≤ 256 := by omega
    have HS : Hid (∀ j, j < ms → nthG (spList (layWords os N)) j = spOf (layWords os N) (st (layWords os N) j) ∧ st (layWords os N) j < 256) := fun j hj => by
      have h1 := begins_mem (st_mem (zs := layWords os N) (k := j) (by omega))
      exact ⟨by rw [hL, nthG_map _ _ _ (by omega)]; rfl, by omega⟩
    have HSP := Lib.hid (Spots_any A q ac _ w1 (by unfold maxLen; omega) hA)
    unfold SpotsP at HSP
    rw [hml, hsp] at HSP
    have HB1 := Lib.hid (bthen HB.out b1)
    have HX1 := Lib.hid (HX.out.below b1 HX.out.lt)
    have HP1 := Lib.hid (HP.out.later b1)
    have HA := Lib.hid hA
    have HQ := Lib.hid hqa
    have HQN := Lib.hid hqN
    rw [hms] at HWA
    clear b1 hqa hq hA t1 t2 t3 t4 hsp hL hms hml hbl HB HX HP HL f0 hqN
    go_wp2_with fail
    refine HSP.out.mono ?_
    rintro e w2 ⟨A2, c2, rfl, b2, _, hA2, _⟩
    have HB2 := Lib.hid (bthen HB1.out b2)
    have HX2 := Lib.hid (HX1.out.below b2 HX1.out.lt)
    have HP2 := Lib.hid (HP1.out.later b2)
    have HA1 := Lib.hid (HA.out.later b2)
    have HA2 := Lib.hid hA2
    clear b2 hA2 HB1 HX1 HP1 HA HSP
    go_wp2_with fail
    have bm : Below w2.heap.size w2 (w2.alloc (.map #[] 0)) := (Below.refl _ w2).alloc (Nat.le_refl _) _
    have HI : Hid (B1I (layWords os N) w2 w2.heap.size 0 (w2.alloc (.map #[] 0))) := ⟨by rw [wdT_zero]; exact MapF.made Try.prog .i64 .i64 3 3 w2, bm⟩
    clear bm
    generalize (w2.alloc (.map #[] 0)) = W4 at *
    obtain ⟨gm, hgm⟩ : ∃ g, w2.heap.size = g := ⟨_, rfl⟩
    have HGM := Lib.hid hgm
    rw [hgm] at HI
    rw [hgm]
    clear hgm hmm
    obtain ⟨zs, hzs⟩ : ∃ zs, layWords os N = zs := ⟨_, rfl⟩
    have HZS := Lib.hid hzs
    rw [hzs] at HI HS HWA HA2 HA1
    clear hzs
    go_loopw [38] (fun i wr => ∃ j : Nat, j ≤ ms ∧ i = .int .i64 j ∧ Hid (B1I zs w2 gm j wr)) (fun i _ => ms - (intOf i).toNat)
    case atStart => exact ⟨0, Nat.zero_le _, rfl, HI⟩
    case round =>
      obtain ⟨j, hj, rfl, hI⟩ := hrel
      clear HI
      by_cases hlt : j < ms
      · obtain ⟨hs, hs256⟩ := HS.out j hlt
        obtain ⟨b, off, rfl, _, q0, q1, q2, q3, q4⟩ := (HA2.out.below (show Below w2.heap.size w2 wr by rw [HGM.out]; exact hI.out.below) (Nat.le_refl _)).spot hlt
        rw [hs] at q0 q1 q2 q3 q4
        unfold spOf at q0 q1 q2 q3 q4
        simp only at q0 q1 q2 q3 q4
        have hba := (Below.refl _ wr).alloc (Nat.le_refl _) (.cells #[.int .i64 (st zs j), .int .i64 (vR (nth zs (st zs j))), .int .i64 (vB (nth zs (st zs j))), .int .i64 (vT (nth zs (st zs j))), .bool (vF (nth zs (st zs j)))] 80)
        have hX : B1I zs w2 gm j (wr.alloc (.cells #[.int .i64 (st zs j), .int .i64 (vR (nth zs (st zs j))), .int .i64 (vB (nth zs (st zs j))), .int .i64 (vT (nth zs (st zs j))), .bool (vF (nth zs (st zs j)))] 80)) := ⟨hI.out.map.alloc _, hI.out.below.trans (hba.mono (Nat.le_of_lt hI.out.map.lt))⟩
        have hsw : (Lit.int .i64 (st zs j : Int)).wf = true := wf_i64.2 (by omega)
        have hjw : (Lit.int .i64 (j : Int)).wf = true := wf_i64.2 (by omega)
        cases hf : vF (nth zs (st zs j))
        · rw [hf] at q4 hX
          obtain ⟨w5, hrun, hm5, hg5⟩ := hX.map.store placesT (by unfold maxLen; omega) hjw hsw
          rw [← wdT_yes hf] at hm5
          have HN : Hid (B1I zs w2 gm (j + 1) w5) := ⟨hm5, hX.below.trans (grown_below hg5 (Nat.le_refl _) (Nat.le_of_lt hX.map.lt))⟩
          clear hs hI hX hf hm5 hg5 hba
          generalize vR (nth zs (st zs j)) = R at *
          generalize vB (nth zs (st zs j)) = Bd at *
          generalize vT (nth zs (st zs j)) = T' at *
          generalize st zs j = s at *
          go_wp2
          go_roundw
          case rel => exact ⟨j + 1, by omega, by go_num, HN⟩
          case measure => simp [intOf]; omega
        · rw [hf] at q4 hX
          have HN : Hid (B1I zs w2 gm (j + 1) _) := ⟨by rw [wdT_no hf]; exact hX.map.mono (by omega), hX.below⟩
          clear hs hI hX hf hba
          generalize vR (nth zs (st zs j)) = R at *
          generalize vB (nth zs (st zs j)) = Bd at *
          generalize vT (nth zs (st zs j)) = T' at *
          generalize st zs j = s at *
          go_wp2
          go_roundw
          case rel => exact ⟨j + 1, by omega, by go_num, HN⟩
          case measure => simp [intOf]; omega
      · obtain rfl : j = ms := by omega
        have hmp := hI.out.map
        rw [HWA.out] at hmp
        have HMP := Lib.hid hmp
        have hb4 : Below w2.heap.size w2 wr := by rw [HGM.out]; exact hI.out.below
        have HB4 := Lib.hid (bthen HB2.out hb4)
        have HX4 := Lib.hid (HX2.out.below hb4 HX2.out.lt)
        have HP4 := Lib.hid (HP2.out.later hb4)
        have HA4 := Lib.hid (HA1.out.later hb4)
        clear hmp hb4 hI HB2 HX2 HP2 HA1 HA2 HS HWA HGM
        clear W4
        generalize wr = w4 at *
        have f1 : w4.cell? ⟨w.heap.size, 1, none⟩ = some (.slice F k d) := HX4.out.cell 1
        go_wp2_with fail
        go_loopw [55] (fun i wr => w4 = wr ∧ ∃ t : Nat, t ≤ k ∧ i = .int .i64 t ∧ Hid (∀ x, x < t → atB os (nth ps x) = true)) (fun i _ => k - (intOf i).toNat)
        case atStart => exact ⟨rfl, 0, Nat.zero_le _, rfl, fun x hx => absurd hx (by omega)⟩
        case round =>
          obtain ⟨rfl, t, ht, rfl, HI⟩ := hrel
          have hkk := HK.out
          by_cases hlt2 : t < k
          · obtain ⟨b, off, rfl, _, hc⟩ := HP4.out.2.2 (by omega)
            have c1 := hc t hlt2
            have htl : t < ps.length := by rw [HP4.out.1]; exact hlt2
            have hx : (Lit.int .i64 (nth ps t)).wf = true := HP4.out.2.1 _ (nth_mem htl)
            have hlk := HMP.out.lookOk placesT (x := nth ps t) hx
            by_cases hat : atB os (nth ps t) = true
            · rw [if_pos hat] at hlk
              simp only [Option.getD_some, Option.isSome_some] at hlk
              have HN : Hid (∀ x, x < t + 1 → atB os (nth ps x) = true) := fun x hx => by
                rcases Nat.lt_succ_iff_lt_or_eq.1 hx with h | h
                · exact HI.out x h
                · rw [h]; exact hat
              clear hc hx htl hat HI
              generalize (offs os (nth ps t).toNat : Int) = V at *
              generalize nth ps t = X at *
              go_wp2
              go_roundw
              case rel => exact ⟨by trivial, t + 1, by omega, by go_num, HN⟩
              case measure => simp [intOf]; omega
            · have HBE : Hid (bldE os ps (N : Int) = 5) := by
                refine bldE_none HE.out ?_
                cases hc : ps.all (atB os)
                · rfl
                · exact absurd (List.all_eq_true.1 hc _ (nth_mem htl)) hat
              rw [if_neg hat] at hlk
              simp only [Option.getD_none, Option.isSome_none] at hlk
              clear hc hx htl hat HI
              generalize nth ps t = X at *
              go_wp2
              refine bodyPost_ret (v := .tuple #[.slice none 0 0, .slice none 0 0, .int .i64 5]) (by simp [results, Try.results15, go_sem]) rfl ?_
              exact ⟨none, 0, 0, none, 0, 0, by rw [HBE.out], HB4.out, Nat.le_refl _, Nat.le_refl _, by rw [bldA_bad (by rw [HBE.out]; decide)]; exact Arr.zero, by rw [bldF_bad (by rw [HBE.out]; decide)]; exact Arr.zero⟩
          · obtain rfl : t = k := by omega
            have hall : ps.all (atB os) = true := List.all_eq_true.2 fun x hx => by
              obtain ⟨i, hi, rfl⟩ := List.getElem_of_mem hx
              rw [← nth_get _ _ hi]
              exact HI.out i (by rw [← HP4.out.1]; exact hi)
            have HBE := Lib.hid (bldE_ok HE.out hall)
            have HR := Lib.hid (renamed_any F t d gm j ps _ w4 HK.out HP4.out HMP.out)
            have hmap : (ps.map fun v => ((fun i => if atB os i = true then some (offs os i.toNat : Int) else none) v).getD 0) = ps.map (fun k => (offs os k.toNat : Int)) := List.map_congr_left fun x hx => by
              have := List.all_eq_true.1 hall x hx
              simp only [if_pos this]
              rfl
            rw [hmap] at HR
            clear hall hmap HI
            go_wp2_with fail
            refine HR.out.mono ?_
            rintro e w6 ⟨g, rfl, _, b6, hW⟩
            have HB6 := Lib.hid (bthen HB4.out b6)
            have HA6 := Lib.hid (HA4.out.later b6)
            have hWA := hW.arr hW.lt
            rw [List.length_map, HP4.out.1] at hWA
            have HWA := Lib.hid hWA
            clear b6 hW hWA HR
            go_wp2
            refine bodyPost_ret (v := .tuple #[.slice A q ac, .slice (some ⟨g, 0, none⟩) t t, .int .i64 0]) (by simp [results, Try.results15, go_sem]) rfl ?_
            refine ⟨A, q, ac, some ⟨g, 0, none⟩, t, t, by rw [HBE.out], HB6.out, HQ.out, Nat.le_refl _, ?_, ?_⟩
            · rw [bldA_ok HBE.out, Int.toNat_natCast, HZS.out]; exact HA6.out
            · rw [bldF_ok HBE.out]; exact HWA.out
  · have hbz : (E != 0) = true := by simpa using h0
    have hb : bldE os ps n = E := by rw [bldE_lay (by rw [HE.out]; exact h0), HE.out]
    have HBE := Lib.hid hb
    have H0 := Lib.hid h0
    clear h0 hb
    go_wp2_with fail
    refine HL.out.mono ?_
    rintro e w1 ⟨b1, A, q, ac, rfl, _, _, _⟩
    have HB1 := Lib.hid (bthen HB.out b1)
    clear b1 HL HB
    go_wp2
    refine bodyPost_ret (v := .tuple #[.slice none 0 0, .slice none 0 0, .int .i64 E]) (by simp [results, Try.results15, go_sem]) rfl ?_
    exact ⟨none, 0, 0, none, 0, 0, by rw [HBE.out], HB1.out, Nat.le_refl _, Nat.le_refl _, by rw [bldA_bad (by rw [HBE.out]; exact H0.out)]; exact Arr.zero, by rw [bldF_bad (by rw [HBE.out]; exact H0.out)]; exact Arr.zero⟩
end Go.Proofs.Ytjefbekdjgmmbaa
