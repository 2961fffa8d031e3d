/-
  Package same: equal, Alike.
-/
import Derived.Test.YtjefbekdjgmmbaaSameF
import Derived.Test.YtjefbekdjgmmbaaSpotFn
namespace Go.Proofs.Ytjefbekdjgmmbaa
open Go.RowKit

/-- Two descriptions are one, but for being free. -/
def eqOb (o p : Ob) : Bool := decide (o.1 = p.1) && decide (o.2.1 = p.2.1) && decide (o.2.2.1 = p.2.2.1)

set_option maxRecDepth 8000 in
set_option maxHeartbeats 1000000 in
theorem sameEqual_any (r q : Raw) (o p : Ob) (lo lo' : Nat) (w : World) (hr : ObV w lo w.heap.size r o) (hq : ObV w lo' w.heap.size q p) (h1 : r.rn ≤ maxLen ∧ r.bn ≤ maxLen) (h2 : q.rn ≤ maxLen ∧ q.bn ≤ maxLen) :
    Calls Try.prog 37 #[rawV r, rawV q] w fun e w' => e = .returned (.bool (eqOb o p)) ∧ Below w.heap.size w w' := by
  have e1 : r.t = o.1 := hr.tag
  have e2 : q.t = p.1 := hq.tag
  have hR := hr.refs
  have hQ := hq.refs
  have hS := hr.body
  have hT := hq.body
  obtain ⟨o0, o1, o2, o3⟩ := o
  obtain ⟨p0, p1, p2, p3⟩ := p
  obtain ⟨t, ra, rn, rc, ba, bn, bc, f⟩ := r
  obtain ⟨t', ra', rn', rc', ba', bn', bc', f'⟩ := q
  simp only at e1 e2 hR hQ hS hT h1 h2
  subst e1 e2
  obtain ⟨E, hE⟩ : ∃ E, eqOb (t, o1, o2, o3) (t', p1, p2, p3) = E := ⟨_, rfl⟩
  rw [hE]
  have HE : Hid (E = (decide (t = t') && decide (o1 = p1) && decide (o2 = p2))) := hE.symm
  unfold rawV
  simp only
  have a1 := (Below.refl _ w).alloc (Nat.le_refl _) (.cells #[.int .i64 t, .slice ra rn rc, .slice ba bn bc, .bool f] 41)
  have a2 := a1.alloc (by simp) (.cells #[.int .i64 t', .slice ra' rn' rc', .slice ba' bn' bc', .bool f'] 41)
  have n1 := (Box.new w 41 #[.int .i64 t, .slice ra rn rc, .slice ba bn bc, .bool f]).alloc (.cells #[.int .i64 t', .slice ra' rn' rc', .slice ba' bn' bc', .bool f'] 41)
  have n2 := Box.new (w.alloc (.cells #[.int .i64 t, .slice ra rn rc, .slice ba bn bc, .bool f] 41)) 41 #[.int .i64 t', .slice ra' rn' rc', .slice ba' bn' bc', .bool f']
  rw [show (w.alloc (.cells #[.int .i64 t, .slice ra rn rc, .slice ba bn bc, .bool f] 41)).heap.size = w.heap.size + 1 by simp] at n2
  have HI := Lib.hid (fun wx (h : Below w.heap.size w wx) => equalInts ra ra' rn rn' rc rc' w.heap.size _ _ wx (hR.below h (Nat.le_refl _)) (hQ.below h (Nat.le_refl _)) h1.1 h2.1)
  have HW := Lib.hid (fun wx (h : Below w.heap.size w wx) => equalWords ba ba' bn bn' bc bc' w.heap.size _ _ wx (hS.below h (Nat.le_refl _)) (hT.below h (Nat.le_refl _)) h1.2 h2.2)
  have N1 := Lib.hid n1
  have N2 := Lib.hid n2
  have HB := Lib.hid a2
  clear hr hq hR hQ hS hT n1 n2 a1 a2 h1 h2 hE
  go_enter Try.func37, Try.ntmps37
  go_upto_region 1 with fail
  generalize ((w.alloc (.cells #[.int .i64 t, .slice ra rn rc, .slice ba bn bc, .bool f] 41)).alloc (.cells #[.int .i64 t', .slice ra' rn' rc', .slice ba' bn' bc', .bool f'] 41)) = W at *
  have c0 : W.cell? ⟨w.heap.size, 0, none⟩ = some (.int .i64 t) := N1.out.cell 0
  have c1 : W.cell? ⟨w.heap.size, 1, none⟩ = some (.slice ra rn rc) := N1.out.cell 1
  have c2 : W.cell? ⟨w.heap.size, 2, none⟩ = some (.slice ba bn bc) := N1.out.cell 2
  have d0 : W.cell? ⟨w.heap.size + 1, 0, none⟩ = some (.int .i64 t') := N2.out.cell 0
  have d1 : W.cell? ⟨w.heap.size + 1, 1, none⟩ = some (.slice ra' rn' rc') := N2.out.cell 1
  have d2 : W.cell? ⟨w.heap.size + 1, 2, none⟩ = some (.slice ba' bn' bc') := N2.out.cell 2
  by_cases ht : t = t'
  · subst ht
    have e0 : (t == t) = true := by simp
    obtain ⟨b1, hb1⟩ : ∃ b, decide (o1 = p1) = b := ⟨_, rfl⟩
    rw [hb1] at HI HE
    clear hb1
    obtain ⟨b2, hb2⟩ : ∃ b, decide (o2 = p2) = b := ⟨_, rfl⟩
    rw [hb2] at HW HE
    clear hb2
    go_wp2_with fail
    refine (HI.out _ HB.out).mono ?_
    rintro e w1 ⟨rfl, q1, rfl⟩
    cases b1
    · go_wp2
      go_ret
      exact ⟨by rw [HE.out]; simp, below_drewN HB.out _⟩
    · go_wp2_with fail
      refine (HW.out _ (below_drewN HB.out q1)).mono ?_
      rintro e w1 ⟨rfl, q2, rfl⟩
      go_wp2
      go_ret
      exact ⟨by rw [HE.out]; simp, below_drewN HB.out _⟩
  · have e0 : (t == t') = false := by simpa using ht
    have HT := Lib.hid ht
    clear ht
    go_wp2
    go_ret
    exact ⟨by rw [HE.out]; simp [HT.out], HB.out⟩

/-- What EqualFunc answers. -/
def EqFP (n n' : Nat) (os ps : List Ob) (w : World) (e : Ending) (w' : World) : Prop := ∃ b : Bool, e = .returned (.bool b) ∧ Below w.heap.size w w' ∧ (b = true ↔ n = n' ∧ ∀ j, j < n → eqOb (nthG os j) (nthG ps j) = true)

set_option maxRecDepth 8000 in
set_option maxHeartbeats 2000000 in
theorem sameEqF_any (A A' : Option Addr) (n n' c c' B lo lo' : Nat) (l l' : List Raw) (os ps : List Ob) (w : World) (hn : n ≤ maxLen) (hn' : n' ≤ maxLen) (hB : B ≤ w.heap.size) (hl : ObsAt w lo B A n l os) (hl' : ObsAt w lo' B A' n' l' ps)
    (h1 : ∀ j, j < n → (nthG l j).rn ≤ maxLen ∧ (nthG l j).bn ≤ maxLen) (h2 : ∀ j, j < n' → (nthG l' j).rn ≤ maxLen ∧ (nthG l' j).bn ≤ maxLen) :
    Calls Try.prog 31 #[.slice A n c, .slice A' n' c', .func (.func 37) #[] #[]] w (EqFP n n' os ps w) := by
  unfold maxLen at hn hn'
  have HL := Lib.hid hl.2.1
  have HL' := Lib.hid hl'.2.1
  have HO := Lib.hid hl.2.2
  have HO' := Lib.hid hl'.2.2
  have H1 := Lib.hid h1
  have H2 := Lib.hid h2
  have hcall := Try.call37
  clear hl hl' h1 h2
  go_enter Try.func31, Try.ntmps31
  by_cases hnn : n = n'
  · subst hnn
    have hne : ((n : Int) != (n : Int)) = false := by simp
    go_wp2_with fail
    go_loopw [17] (fun i wr => ∃ k : Nat, k ≤ n ∧ i = .int .i64 k ∧ Hid (Below w.heap.size w wr) ∧ Hid (∀ j, j < k → eqOb (nthG os j) (nthG ps j) = true)) (fun i _ => n - (intOf i).toNat)
    case atStart => exact ⟨0, Nat.zero_le _, rfl, Below.refl _ _, fun j hj => absurd hj (by omega)⟩
    case round =>
      obtain ⟨k, hk, rfl, hBw, HE⟩ := hrel
      by_cases hlt : k < n
      · obtain ⟨b, off, rfl, hb, x0, x1, x2, x3⟩ := (HL.out.below hBw.out hB).raw hlt
        obtain ⟨b', off', rfl, hb', y0, y1, y2, y3⟩ := (HL'.out.below hBw.out hB).raw hlt
        have hr := (HO.out k hlt).below hBw.out hB
        have hq := (HO'.out k hlt).below hBw.out hB
        have hm := H1.out k hlt
        have hm' := H2.out k hlt
        have hsz := hBw.out.size
        generalize nthG l k = r at *
        generalize nthG l' k = q at *
        have a1 := (Below.refl _ wr).alloc (Nat.le_refl _) (.cells #[.int .i64 r.t, .slice r.ra r.rn r.rc, .slice r.ba r.bn r.bc, .bool r.f] 41)
        have a2 := a1.alloc (by simp) (.cells #[.int .i64 q.t, .slice q.ra q.rn q.rc, .slice q.ba q.bn q.bc, .bool q.f] 41)
        have HC := Lib.hid (sameEqual_any r q (nthG os k) (nthG ps k) lo lo' _ ((hr.below a2 (by omega)).more (Nat.le_trans (by omega) a2.size)) ((hq.below a2 (by omega)).more (Nat.le_trans (by omega) a2.size)) hm hm')
        unfold rawV at HC
        obtain ⟨t, ra, rn, rc, ba, bn, bc, f⟩ := r
        obtain ⟨t', ra', rn', rc', ba', bn', bc', f'⟩ := q
        simp only at x0 x1 x2 x3 y0 y1 y2 y3 a1 a2 HC
        have z0 := (a1.cell (p := ⟨b', off' + k * 4, none⟩) (show b' < wr.heap.size by omega)).trans y0
        have z1 := (a1.cell (p := ⟨b', off' + k * 4 + 1, none⟩) (show b' < wr.heap.size by omega)).trans y1
        have z2 := (a1.cell (p := ⟨b', off' + k * 4 + 2, none⟩) (show b' < wr.heap.size by omega)).trans y2
        have z3 := (a1.cell (p := ⟨b', off' + k * 4 + 3, none⟩) (show b' < wr.heap.size by omega)).trans y3
        have HB2 := Lib.hid a2
        obtain ⟨V, hV⟩ : ∃ V, eqOb (nthG os k) (nthG ps k) = V := ⟨_, rfl⟩
        have HV := Lib.hid hV
        rw [hV] at HC
        clear hr hq a1 a2 hm hm' hsz hV
        go_wp2_with fail
        refine HC.out.mono ?_
        rintro e w1 ⟨rfl, b1⟩
        have HB3 := Lib.hid (hBw.out.trans ((HB2.out.trans (b1.mono HB2.out.size)).mono hBw.out.size))
        clear x0 x1 x2 x3 y0 y1 y2 y3 z0 z1 z2 z3 b1
        cases V
        · go_wp2
          go_ret
          exact ⟨false, rfl, HB3.out, by simp, fun h => by have := h.2 k hlt; rw [HV.out] at this; cases this⟩
        · have HN : Hid (∀ j, j < k + 1 → eqOb (nthG os j) (nthG ps j) = true) := fun j hj => by
            rcases Nat.lt_succ_iff_lt_or_eq.1 hj with h | h
            · exact HE.out j h
            · rw [h]; exact HV.out
          go_wp2
          go_roundw
          case rel => exact ⟨k + 1, by omega, by go_num, HB3, HN⟩
          case measure => simp [intOf]; omega
      · obtain rfl : k = n := by omega
        go_wp2
        go_ret
        exact ⟨true, rfl, hBw.out, fun _ => ⟨rfl, HE.out⟩, fun _ => rfl⟩
  · have hne : ((n : Int) != (n' : Int)) = true := by simpa using fun h : (n : Int) = n' => hnn (by omega)
    have HNN := Lib.hid hnn
    clear hnn
    go_wp2
    go_ret
    exact ⟨false, rfl, Below.refl _ _, by simp, fun h => absurd h.1 HNN.out⟩

/-- The objects of a form are not free. -/
theorem form_used {zs fr : List Int} : ∀ o ∈ formO zs fr, o.2.2.2 = false := fun o ho => by
  unfold formO obsC at ho
  obtain ⟨x, _, rfl⟩ := List.mem_map.1 ho
  rfl
/-- Forms are one if their descriptions are. -/
theorem forms_one {zs fr ys gr : List Int} : ((formO zs fr).length = (formO ys gr).length ∧ ∀ j, j < (formO zs fr).length → eqOb (nthG (formO zs fr) j) (nthG (formO ys gr) j) = true) ↔ formO zs fr = formO ys gr := by
  constructor
  · rintro ⟨h1, h2⟩
    refine List.ext_getElem h1 fun j ha hb => ?_
    have h3 := h2 j ha
    rw [nthG_get _ _ ha, nthG_get _ _ hb] at h3
    have f1 := form_used _ (List.getElem_mem ha)
    have f2 := form_used _ (List.getElem_mem hb)
    unfold eqOb at h3
    simp only [Bool.and_eq_true, decide_eq_true_eq] at h3
    obtain ⟨⟨h3, h4⟩, h5⟩ := h3
    exact Prod.ext h3 (Prod.ext h4 (Prod.ext h5 (f1.trans f2.symm)))
  · intro h
    rw [h]
    exact ⟨rfl, fun j _ => by unfold eqOb; simp⟩

set_option maxRecDepth 8000 in
set_option maxHeartbeats 2000000 in
theorem alike_any : AlikeC := by
  intro A F B G n c nf cf m d ng cg zs fr ys gr w ha hb
  have HF := Lib.hid (form_any A F n c nf cf zs fr w ha)
  have HG := Lib.hid (fun wx (h : Below w.heap.size w wx) => form_any B G m d ng cg ys gr wx (hb.later h))
  unfold SFormP at HF HG
  clear ha hb
  go_enter Try.func11, Try.ntmps11
  by_cases h0 : fromE zs fr = 0
  · have H0 := Lib.hid h0
    rw [h0] at HF
    clear h0
    go_wp2_with fail
    refine HF.out.mono ?_
    rintro e w1 ⟨D, p, pc, P, k, kc, raws, rfl, b1, hF⟩
    have hba := (Below.refl _ w1).alloc (Nat.le_refl _) (.cells #[.slice D p pc, .slice P k kc] 26)
    have HX := Lib.hid (Box.new w1 26 #[.slice D p pc, .slice P k kc])
    have HB := Lib.hid (bthen b1 hba)
    have HFI := Lib.hid (hF.later hba)
    have HC := Lib.hid (HG.out _ HB.out)
    clear b1 hF hba HF HG
    by_cases h1 : fromE ys gr = 0
    · have H1 := Lib.hid h1
      rw [h1] at HC
      clear h1
      go_wp2_with fail
      refine HC.out.mono ?_
      rintro e w2 ⟨D', p', pc', P', k', kc', raws', rfl, b2, hG⟩
      have hba := (Below.refl _ w2).alloc (Nat.le_refl _) (.cells #[.slice D' p' pc', .slice P' k' kc'] 26)
      have hbb := bthen b2 hba
      have HB2 := Lib.hid (bthen HB.out hbb)
      have hX := HX.out.below hbb HX.out.lt
      have hY := Box.new w2 26 #[.slice D' p' pc', .slice P' k' kc']
      have HF2 := Lib.hid (HFI.out.later hbb)
      have HG2 := Lib.hid (hG.later hba)
      clear b2 hG hba hbb HX HB HFI HC
      have f0 : (w2.alloc (.cells #[.slice D' p' pc', .slice P' k' kc'] 26)).cell? ⟨w1.heap.size, 0, none⟩ = some (.slice D p pc) := hX.cell 0
      have f1 : (w2.alloc (.cells #[.slice D' p' pc', .slice P' k' kc'] 26)).cell? ⟨w1.heap.size, 1, none⟩ = some (.slice P k kc) := hX.cell 1
      have g0 : (w2.alloc (.cells #[.slice D' p' pc', .slice P' k' kc'] 26)).cell? ⟨w2.heap.size, 0, none⟩ = some (.slice D' p' pc') := hY.cell 0
      have g1 : (w2.alloc (.cells #[.slice D' p' pc', .slice P' k' kc'] 26)).cell? ⟨w2.heap.size, 1, none⟩ = some (.slice P' k' kc') := hY.cell 1
      clear hX hY
      go_upto_region 7 with fail
      generalize (w2.alloc (.cells #[.slice D' p' pc', .slice P' k' kc'] 26)) = w3 at *
      have HQ := Lib.hid (equalInts P P' k k' kc kc' w3.heap.size _ _ w3 HF2.out.places HG2.out.places (by unfold maxLen; have := HF2.out.kz; omega) (by unfold maxLen; have := HG2.out.kz; omega))
      have HE := Lib.hid (fun wx (h : Below w3.heap.size w3 wx) => sameEqF_any D D' p p' pc pc' wx.heap.size 0 0 raws raws' _ _ wx (by unfold maxLen; have := HF2.out.mz; omega) (by unfold maxLen; have := HG2.out.mz; omega) (Nat.le_refl _) (HF2.out.objs.laterS h) (HG2.out.objs.laterS h) HF2.out.lens HG2.out.lens)
      have hr : aliB zs fr ys gr = (decide (formO zs fr = formO ys gr) && decide (formF zs fr = formF ys gr)) := by
        rw [aliB_ok (aliE_zero.2 ⟨H0.out, H1.out⟩)]
        unfold sameB
        rw [Bool.decide_and]
      have hpl : (formO zs fr).length = p := by have := HF2.out.objs.1; rwa [sfO_ok H0.out] at this
      have hpl' : (formO ys gr).length = p' := by have := HG2.out.objs.1; rwa [sfO_ok H1.out] at this
      rw [sfF_ok H0.out, sfF_ok H1.out] at HQ
      rw [sfO_ok H0.out, sfO_ok H1.out] at HE
      have HR := Lib.hid hr
      have HP := Lib.hid hpl
      have HP' := Lib.hid hpl'
      obtain ⟨V, hV⟩ : ∃ V, decide (formF zs fr = formF ys gr) = V := ⟨_, rfl⟩
      have HV := Lib.hid hV
      rw [hV] at HQ
      clear hr hpl hpl' hV HF2 HG2
      go_wp2_with fail
      refine HQ.out.mono ?_
      rintro e w4 ⟨rfl, q4, rfl⟩
      cases V
      · go_wp2
        go_ret2
        unfold AlikeP
        rw [aliE_zero.2 ⟨H0.out, H1.out⟩, HR.out, HV.out, Bool.and_false]
        exact ⟨rfl, below_drewN HB2.out _⟩
      · go_wp2_with fail
        refine (HE.out _ (below_drewN (Below.refl _ _) q4)).mono ?_
        rintro e w5 ⟨b, rfl, b5, hb⟩
        have HB5 := Lib.hid (bthen (below_drewN HB2.out q4) b5)
        have HBB := Lib.hid hb
        clear b5 hb
        go_wp2
        go_ret2
        unfold AlikeP
        rw [aliE_zero.2 ⟨H0.out, H1.out⟩, HR.out, HV.out, Bool.and_true]
        refine ⟨?_, HB5.out⟩
        have hd : decide (formO zs fr = formO ys gr) = b := by
          rw [Bool.eq_iff_iff, decide_eq_true_eq, HBB.out, ← forms_one, HP.out, HP'.out]
        rw [hd]
        rfl
    · have hbz : (fromE ys gr != 0) = true := by simpa using h1
      have H1 := Lib.hid h1
      clear h1
      go_wp2_with fail
      refine HC.out.mono ?_
      rintro e w2 ⟨D', p', pc', P', k', kc', raws', rfl, b2, _⟩
      have HB2 := Lib.hid (bthen HB.out b2)
      clear b2 HC HB HX HFI
      go_wp2
      go_ret2
      unfold AlikeP
      have he : aliE zs fr ys gr = fromE ys gr := aliE_two H0.out
      rw [aliB_bad (by rw [he]; exact H1.out), he]
      exact ⟨rfl, HB2.out.alloc HB2.out.size _⟩
  · have hbz : (fromE zs fr != 0) = true := by simpa using h0
    have H0 := Lib.hid h0
    clear h0 HG
    go_wp2_with fail
    refine HF.out.mono ?_
    rintro e w1 ⟨D, p, pc, P, k, kc, raws, rfl, b1, _⟩
    have HB := Lib.hid b1
    clear b1 HF
    go_wp2
    go_ret2
    unfold AlikeP
    have he : aliE zs fr ys gr = fromE zs fr := aliE_one H0.out
    rw [aliB_bad (by rw [he]; exact H0.out), he]
    exact ⟨rfl, HB.out.alloc HB.out.size _⟩
end Go.Proofs.Ytjefbekdjgmmbaa
