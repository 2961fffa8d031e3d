/-
  What is slid, what is copied has the form of what it was made of. Over no program of its own.
-/
import Derived.Test.YtjefbekdjgmmbaaSameM
import Derived.Test.YtjefbekdjgmmbaaSlideN
import Derived.Test.YtjefbekdjgmmbaaCarryC
namespace Go.Proofs.Ytjefbekdjgmmbaa
open Go.RowKit

section
variable {zs fr ps ks : List Int}
theorem PlanOk.slid_body (h : PlanOk zs ks ps) {i : Nat} (hi : i < ks.length) : bodyWords (slidL zs ks ps) (tn zs ks ps i) = bodyWords zs (kn ks i) := by
  obtain ⟨a1, a2, a3, a4, a5, a6, a7, a8⟩ := h.nat hi
  have hl : longN zs (kn ks i) = 1 + (vR (nth zs (kn ks i))).toNat + (vB (nth zs (kn ks i))).toNat := rfl
  have hlen := h.slid_len
  unfold bodyWords
  rw [h.slid_head hi]
  refine nth_ext (by rw [List.length_take, List.length_take, List.length_drop, List.length_drop, hlen]; omega) fun d hd => ?_
  rw [List.length_take] at hd
  have hdb : d < (vB (nth zs (kn ks i))).toNat := by omega
  have hn : ∀ (l : List Int) (a : Nat), nth ((l.drop a).take (vB (nth zs (kn ks i))).toNat) d = nth l (a + d) := fun l a => by
    generalize (vB (nth zs (kn ks i))).toNat = q at hdb
    unfold nth
    rw [List.getD_eq_getElem?_getD, List.getD_eq_getElem?_getD, List.getElem?_take, if_pos hdb, List.getElem?_drop]
  rw [hn, hn]
  have e1 := h.slid_obj hi (d := 1 + (vR (nth zs (kn ks i))).toNat + d) (by omega)
  unfold objW at e1
  rw [if_neg (by omega)] at e1
  rw [show tn zs ks ps i + 1 + (vR (nth zs (kn ks i))).toNat + d = tn zs ks ps i + (1 + (vR (nth zs (kn ks i))).toNat + d) by omega, e1]
  congr 1
  omega
theorem CleanOk.iso (hz : ∀ z ∈ zs, (Lit.int .u64 z).wf = true) (h : CleanOk zs fr ps) : Iso zs (slidL zs (keepL zs fr ps) ps) (fr ++ ps) (trI zs (keepL zs fr ps) ps) := by
  have hk : ∀ x ∈ camL zs (fr ++ ps), ∃ i, i < (keepL zs fr ps).length ∧ nth (keepL zs fr ps) i = x := fun x hx => by
    obtain ⟨i, hi, e⟩ := List.getElem_of_mem (show x ∈ keepL zs fr ps from (camL_mem hz h.from_).1 hx)
    exact ⟨i, hi, (nth_get _ _ hi).trans e⟩
  have hto : ∀ {i}, i < (keepL zs fr ps).length → (trI zs (keepL zs fr ps) ps (nth (keepL zs fr ps) i)).toNat = tn zs (keepL zs fr ps) ps i := fun hi => by rw [h.ok.tr_to hi]; rfl
  refine ⟨fun y hy => ?_, fun x hx => ?_, fun x hx y hy e => ?_, fun x hx => ?_, fun x hx => ?_, fun x hx => ?_⟩
  · unfold trI; rw [if_pos hy]; exact hy
  · obtain ⟨i, hi, rfl⟩ := hk x hx
    rw [h.ok.tr_to hi]
    exact (h.ok.fits hi).1
  · obtain ⟨i, hi, rfl⟩ := hk x hx
    obtain ⟨j, hj, rfl⟩ := hk y hy
    rw [h.ok.tr_to hi, h.ok.tr_to hj] at e
    rw [h.ok.to_one hi hj e]
  · obtain ⟨i, hi, rfl⟩ := hk x hx
    have := h.ok.slid_named h.held hi
    rw [← h.ok.tr_to hi] at this
    exact this
  · obtain ⟨i, hi, rfl⟩ := hk x hx
    rw [hto hi, h.ok.slid_head hi]; rfl
  · obtain ⟨i, hi, rfl⟩ := hk x hx
    rw [hto hi, h.ok.slid_body hi]; rfl
/-- What is slid is alike. -/
theorem CleanOk.same (hz : ∀ z ∈ zs, (Lit.int .u64 z).wf = true) (h : CleanOk zs fr ps) : fromE (slidL zs (keepL zs fr ps) ps) (fr.map (trI zs (keepL zs fr ps) ps) ++ ps) = 0 ∧ sameB zs (fr ++ ps) (slidL zs (keepL zs fr ps) ps) (fr.map (trI zs (keepL zs fr ps) ps) ++ ps) = true := by
  have h1 := (h.ok.slid_reach hz h.held h.sub h.all).1
  have h2 := (h.iso hz).same hz h.from_ (h.ok.slid_wf hz h.held) h1
  rw [h.tr_app] at h1 h2
  exact ⟨h1, h2⟩
end

/-- Where an object goes when it is copied. -/
def putF (zs l : List Int) (n : Nat) (y : Int) : Int := if y < 0 then y else atI (layWords (obsC zs l) n) (plI l y)
section
variable {zs fr : List Int} {n : Nat}
/-- A copied object. -/
theorem copy_obj (hz : ∀ z ∈ zs, (Lit.int .u64 z).wf = true) (h0 : fromE zs fr = 0) (hn : n ≤ 256) (ht : tkL zs (camL zs fr) ≤ n) {i : Nat} (hi : i < (camL zs fr).length) :
    i < (begins (copyL zs fr n) 0).length ∧ putF zs (camL zs fr) n (nth (camL zs fr) i) = (st (copyL zs fr n) i : Int) ∧ obOf (copyL zs fr n) (st (copyL zs fr n) i) = obC zs (camL zs fr) (nth (camL zs fr) i) := by
  have hl := camL_lives hz h0
  have hx0 : 0 ≤ nth (camL zs fr) i := (camT_ok _).pos _ (nth_mem hi)
  obtain ⟨_, h2, h3⟩ := copy_begins hz hl hn ht
  obtain ⟨_, _, h5, h6⟩ := lay_told (obsC_lay hz hl hn ht)
  have hL : (camL zs fr).length ≤ (layObs (obsC zs (camL zs fr)) n).length := by unfold layObs; rw [List.length_append, obsC_len]; omega
  refine ⟨Nat.lt_of_lt_of_le hi h2, ?_, ?_⟩
  · unfold putF
    rw [if_neg (by omega), plI_at camL_nd hi, atI_nat]
    rfl
  · have h7 := h6 i (by omega)
    have e : nthG (layObs (obsC zs (camL zs fr)) n) i = nthG (obsC zs (camL zs fr)) i := by
      unfold layObs
      rw [nthG_append_left _ _ _ (by rw [obsC_len]; exact hi)]
    rw [e, obsC_nth hi] at h7
    exact h7
theorem copy_iso (hz : ∀ z ∈ zs, (Lit.int .u64 z).wf = true) (h0 : fromE zs fr = 0) (hn : n ≤ 256) (ht : tkL zs (camL zs fr) ≤ n) (hzy : ∀ z ∈ copyL zs fr n, (Lit.int .u64 z).wf = true) :
    Iso zs (copyL zs fr n) fr (putF zs (camL zs fr) n) ∧ fromE (copyL zs fr n) (fr.map (putF zs (camL zs fr) n)) = 0 := by
  have hl := camL_lives hz h0
  have hae : arErr (copyL zs fr n) = 0 := (lay_told (obsC_lay hz hl hn ht)).2.1
  have hk : ∀ x ∈ camL zs fr, ∃ i, i < (camL zs fr).length ∧ nth (camL zs fr) i = x := fun x hx => by
    obtain ⟨i, hi, e⟩ := List.getElem_of_mem hx
    exact ⟨i, hi, by rw [nth_get _ _ hi]; exact e⟩
  have hob := fun {i} (hi : i < (camL zs fr).length) => copy_obj hz h0 hn ht hi
  have hlive : ∀ {i}, i < (camL zs fr).length → (st (copyL zs fr n) i : Int) ∈ livesI (copyL zs fr n) := fun hi => by
    obtain ⟨a1, _, a3⟩ := hob hi
    exact mem_lives.2 ⟨_, a1, rfl, congrArg (fun o : Ob => o.2.2.2) a3⟩
  refine ⟨⟨fun y hy => by unfold putF; rw [if_pos hy]; exact hy, fun x hx => ?_, fun x hx y hy e => ?_, fun x hx => ?_, fun x hx => ?_, fun x hx => ?_⟩, fromE_ok hae fun y hy => ?_⟩
  · obtain ⟨i, hi, rfl⟩ := hk x hx
    rw [(hob hi).2.1]; omega
  · obtain ⟨i, hi, rfl⟩ := hk x hx
    obtain ⟨j, hj, rfl⟩ := hk y hy
    rw [(hob hi).2.1, (hob hj).2.1] at e
    rw [st_inj (hob hi).1 (hob hj).1 (by omega)]
  · obtain ⟨i, hi, rfl⟩ := hk x hx
    obtain ⟨a1, a2, a3⟩ := hob hi
    obtain ⟨b1, _⟩ := refs_at hzy hae (hlive hi)
    have hr : refsX (copyL zs fr n) (st (copyL zs fr n) i) = (named zs (nth (camL zs fr) i).toNat).map (plI (camL zs fr)) := congrArg (fun o : Ob => o.2.1) a3
    rw [a2, Int.toNat_natCast, ← b1, hr, List.map_map]
    refine List.map_congr_left fun y hy => ?_
    show atI (copyL zs fr n) (plI (camL zs fr) y) = putF zs (camL zs fr) n y
    unfold putF
    by_cases hy0 : y < 0
    · rw [if_pos hy0]
      -- what names nothing is -1
      have hxl := hl _ (nth_mem hi)
      obtain ⟨s, hs, hf, es⟩ := lives_mem.1 hxl
      have es2 : (nth (camL zs fr) i).toNat = s := by omega
      rw [es2] at hy
      obtain ⟨c1, c2⟩ := refs_at hz (fromE_zero h0).1 (s := s) (by rw [← es]; exact hxl)
      rw [← c1] at hy
      obtain ⟨r, hr2, rfl⟩ := List.mem_map.1 hy
      rcases c2 r hr2 with rfl | ⟨hr0, _⟩
      · rw [plI_out (fun hc => by have := (camT_ok (zs := zs) (fr := fr) zs.length).pos _ hc; rw [atI_null] at this; omega)]
        rfl
      · rw [atI_pos hr0] at hy0; omega
    · rw [if_neg hy0]; rfl
  · obtain ⟨i, hi, rfl⟩ := hk x hx
    obtain ⟨a1, a2, a3⟩ := hob hi
    rw [a2, Int.toNat_natCast]
    exact congrArg (fun o : Ob => o.1) a3
  · obtain ⟨i, hi, rfl⟩ := hk x hx
    obtain ⟨a1, a2, a3⟩ := hob hi
    rw [a2, Int.toNat_natCast]
    exact congrArg (fun o : Ob => o.2.2.1) a3
  · obtain ⟨x, hx, rfl⟩ := List.mem_map.1 hy
    obtain ⟨i, hi, rfl⟩ := hk x (camL_fr h0 x hx)
    rw [(hob hi).2.1]
    exact hlive hi
/-- What is copied is alike. -/
theorem copy_same (hz : ∀ z ∈ zs, (Lit.int .u64 z).wf = true) (h0 : fromE zs fr = 0) (hn : n ≤ 256) (ht : tkL zs (camL zs fr) ≤ n) (hzy : ∀ z ∈ copyL zs fr n, (Lit.int .u64 z).wf = true) :
    fromE (copyL zs fr n) (fr.map (putF zs (camL zs fr) n)) = 0 ∧ sameB zs fr (copyL zs fr n) (fr.map (putF zs (camL zs fr) n)) = true := by
  obtain ⟨h1, h2⟩ := copy_iso hz h0 hn ht hzy
  exact ⟨h2, h1.same hz h0 hzy h2⟩
/-- Where it goes, as the copy tells it. -/
theorem putF_beg (hz : ∀ z ∈ zs, (Lit.int .u64 z).wf = true) (h0 : fromE zs fr = 0) (hn : n ≤ 256) (ht : tkL zs (camL zs fr) ≤ n) {i : Nat} (hi : i < (camL zs fr).length) : putF zs (camL zs fr) n (nth (camL zs fr) i) = nth (begC zs (camL zs fr)) i := by
  rw [(copy_obj hz h0 hn ht hi).2.1, begC_nth hi]
  have := (copy_begins hz (camL_lives hz h0) hn ht).2.2 i hi
  exact congrArg (fun q : Nat => (q : Int)) this
end
end Go.Proofs.Ytjefbekdjgmmbaa
