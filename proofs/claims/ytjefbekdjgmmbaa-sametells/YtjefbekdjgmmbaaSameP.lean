/-
  Contract of the reference's SameForm; the form that the reference makes.
-/
import Derived.Test.YtjefbekdjgmmbaaSameO
import Derived.Test.YtjefbekdjgmmbaaSameN
import Derived.Test.YtjefbekdjgmmbaaRefForm
namespace Go.Proofs.Ytjefbekdjgmmbaa
open Go.RowKit

theorem FormIn.ofO {w : World} {D F : Option Addr} {m c k d : Nat} {raws : List Raw} {os : List Ob} {ps : List Int} (h : FormIn w D m c F k d raws os ps) : m ≤ maxLen ∧ k ≤ maxLen := by
  have h1 := h.mz
  have h2 := h.kz
  unfold maxLen
  omega
set_option maxRecDepth 8000 in
set_option maxHeartbeats 1000000 in
theorem sameForm_any (D F D' F' : Option Addr) (m c k d m' c' k' d' : Nat) (raws raws' : List Raw) (os os' : List Ob) (ps ps' : List Int) (w : World) (h : FormIn w D m c F k d raws os ps) (h' : FormIn w D' m' c' F' k' d' raws' os' ps') :
    Calls Try.prog 13 #[.agg #[.slice D m c, .slice F k d], .agg #[.slice D' m' c', .slice F' k' d']] w fun e w' => e = .returned (.bool (decide (os = os' ∧ ps = ps'))) ∧ Below w.heap.size w w' := by
  have HQ := Lib.hid (fun wx (hb : Below w.heap.size w wx) => sameObs_any D D' m m' c c' wx.heap.size 0 0 raws raws' os os' wx (h.ofO).1 (h'.ofO).1 (Nat.le_refl _) (h.later hb).objs.2.1 (h'.later hb).objs.2.1 (h.later hb).objs.2.2 (h'.later hb).objs.2.2 h.lens h'.lens h.objs.1 h'.objs.1)
  have HI := Lib.hid (fun wx (hb : Below w.heap.size w wx) => refInts F F' k k' d d' wx.heap.size ps ps' wx (h.later hb).places (h'.later hb).places (h.ofO).2 (h'.ofO).2)
  have b1 := (Below.refl _ w).alloc (Nat.le_refl _) (.cells #[.slice D m c, .slice F k d] 26)
  have b2 := b1.alloc b1.size (.cells #[.slice D' m' c', .slice F' k' d'] 26)
  have y0 := (Box.new w 26 #[.slice D m c, .slice F k d]).alloc (.cells #[.slice D' m' c', .slice F' k' d'] 26)
  have y1 := Box.new (w.alloc (.cells #[.slice D m c, .slice F k d] 26)) 26 #[.slice D' m' c', .slice F' k' d']
  rw [show (w.alloc (.cells #[.slice D m c, .slice F k d] 26)).heap.size = w.heap.size + 1 by simp] at y1
  have HB2 := Lib.hid b2
  have HY0 := Lib.hid y0
  have HY1 := Lib.hid y1
  clear h h' b1 b2 y0 y1
  go_enter Try.func13, Try.ntmps13
  go_wp2_with fail
  generalize ((w.alloc (.cells #[.slice D m c, .slice F k d] 26)).alloc (.cells #[.slice D' m' c', .slice F' k' d'] 26)) = W2 at *
  refine (HQ.out W2 HB2.out).mono ?_
  rintro e w3 ⟨rfl, b3⟩
  have HB3 := Lib.hid (bthen HB2.out b3)
  have HZ0 := Lib.hid (HY0.out.below b3 HY0.out.lt)
  have HZ1 := Lib.hid (HY1.out.below b3 HY1.out.lt)
  clear b3 HQ HY0 HY1 HB2
  by_cases hos : os = os'
  · have HI3 := Lib.hid (HI.out w3 HB3.out)
    have x0 : w3.cell? ⟨w.heap.size, 1, none⟩ = some (.slice F k d) := HZ0.out.cell 1
    have x1 : w3.cell? ⟨w.heap.size + 1, 1, none⟩ = some (.slice F' k' d') := HZ1.out.cell 1
    rw [decide_eq_true hos]
    have HD : Hid (decide (os = os' ∧ ps = ps') = decide (ps = ps')) := by
      show _ = _
      rw [decide_eq_decide]
      exact ⟨fun h => h.2, fun h => ⟨hos, h⟩⟩
    clear hos HI
    go_wp2_with fail
    refine HI3.out.mono ?_
    rintro e w4 ⟨rfl, q, rfl⟩
    generalize decide (ps = ps') = X at *
    go_wp2
    go_ret
    exact ⟨by rw [HD.out]; try rfl, below_drewN HB3.out q⟩
  · rw [decide_eq_false hos]
    have HD : Hid (decide (os = os' ∧ ps = ps') = false) := decide_eq_false (fun h => hos h.1)
    clear hos HI
    go_wp2
    go_ret
    exact ⟨by rw [HD.out]; try rfl, HB3.out⟩
/-- The reference's form, as a form in memory. -/
theorem FormP.inn {zs fr : List Int} {w w' : World} {e : Ending} (hz : ∀ z ∈ zs, (Lit.int .u64 z).wf = true) (h0 : fromE zs fr = 0) (hf : fr.length * 8 ≤ 140737488355328) (h : FormP zs fr w e w') : ∃ D m c F k d raws, e = .returned (.agg #[.slice D m c, .slice F k d]) ∧ Below w.heap.size w w' ∧ FormIn w' D m c F k d raws (formO zs fr) (formF zs fr) := by
  obtain ⟨D, c, raws, F, fc, he, hc, hb, hr, hv, hfc, hp⟩ := h
  have hl := camL_len hz h0
  have hlv := camL_lives hz h0
  refine ⟨D, _, c, F, _, fc, raws, he, hb, hc, hfc, by omega, hf, ⟨obsC_len, hr, fun j hj => ?_⟩, fun j hj => ?_, hp⟩
  · have h1 := hv j hj
    have e : nthG (formO zs fr) j = obC zs (camL zs fr) (nth (camL zs fr) j) := obsC_nth hj
    rw [e]
    exact h1.less (Nat.zero_le _)
  · have h1 := hv j hj
    have hx := hlv _ (nth_mem hj)
    obtain ⟨s, hs, _, e⟩ := lives_mem.1 hx
    have h2 := h1.refs.1
    have h3 := h1.body.1
    have h4 := arena_len (fromE_zero h0).1
    have hr3 : (obC zs (camL zs fr) (nth (camL zs fr) j)).2.1.length ≤ zs.length := by
      unfold obC named refWords
      simp
      omega
    have hb3 : (obC zs (camL zs fr) (nth (camL zs fr) j)).2.2.1.length ≤ zs.length := by
      unfold obC bodyWords
      simp
      omega
    unfold maxLen
    omega
end Go.Proofs.Ytjefbekdjgmmbaa
