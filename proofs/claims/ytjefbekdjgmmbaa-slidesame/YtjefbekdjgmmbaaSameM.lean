/-
  Isomorphism, over no program of its own: forms; what is moved by a map that keeps all but the places has the same form.
-/
import Derived.Test.YtjefbekdjgmmbaaCarryM
namespace Go.Proofs.Ytjefbekdjgmmbaa
open Go.RowKit

/-- The form: the objects in the order in which they are come to, and the places of what one begins with. -/
def formO (zs fr : List Int) : List Ob := obsC zs (camL zs fr)
def formF (zs fr : List Int) : List Int := fr.map (plI (camL zs fr))
def sameB (zs fr ys gr : List Int) : Bool := decide (formO zs fr = formO ys gr ∧ formF zs fr = formF ys gr)
theorem sameB_iff {zs fr ys gr : List Int} : sameB zs fr ys gr = true ↔ formO zs fr = formO ys gr ∧ formF zs fr = formF ys gr := by unfold sameB; rw [decide_eq_true_eq]
theorem sameB_refl {zs fr : List Int} : sameB zs fr zs fr = true := sameB_iff.2 ⟨rfl, rfl⟩
theorem sameB_comm {zs fr ys gr : List Int} : sameB zs fr ys gr = sameB ys gr zs fr := by
  rw [Bool.eq_iff_iff, sameB_iff, sameB_iff]
  exact ⟨fun h => ⟨h.1.symm, h.2.symm⟩, fun h => ⟨h.1.symm, h.2.symm⟩⟩
theorem sameB_trans {zs fr ys gr xs er : List Int} (h1 : sameB zs fr ys gr = true) (h2 : sameB ys gr xs er = true) : sameB zs fr xs er = true := by
  rw [sameB_iff] at *
  exact ⟨h1.1.trans h2.1, h1.2.trans h2.2⟩

/-- 'f' takes what is reached in 'zs' to what is in 'ys', and keeps all but the places. -/
structure Iso (zs ys fr : List Int) (f : Int → Int) : Prop where
  neg : ∀ y, y < 0 → f y < 0
  pos : ∀ x ∈ camL zs fr, 0 ≤ f x
  inj : ∀ x ∈ camL zs fr, ∀ y ∈ camL zs fr, f x = f y → x = y
  named : ∀ x ∈ camL zs fr, named ys (f x).toNat = (named zs x.toNat).map f
  tag : ∀ x ∈ camL zs fr, vT (nth ys (f x).toNat) = vT (nth zs x.toNat)
  body : ∀ x ∈ camL zs fr, bodyWords ys (f x).toNat = bodyWords zs x.toNat
section
variable {zs ys fr out l : List Int} {f : Int → Int} {x y : Int} {i k : Nat}
theorem mapf_mem (h : Iso zs ys fr f) (hl : ∀ x ∈ l, x ∈ camL zs fr) (hy : y < 0 ∨ y ∈ camL zs fr) : f y ∈ l.map f ↔ y ∈ l := by
  rw [List.mem_map]
  constructor
  · rintro ⟨x, hx, e⟩
    rcases hy with hy | hy
    · have h1 := h.pos x (hl x hx)
      have h2 := h.neg y hy
      omega
    · rw [← h.inj x (hl x hx) y hy e]; exact hx
  · exact fun hy => ⟨y, hy, rfl⟩
theorem Iso.addN (h : Iso zs ys fr f) (hl : ∀ x ∈ out, x ∈ camL zs fr) (hy : y < 0 ∨ y ∈ camL zs fr) : (addN out y).map f = Go.Proofs.Ytjefbekdjgmmbaa.addN (out.map f) (f y) := by
  have hm := mapf_mem h hl hy
  by_cases hc : y < 0 ∨ y ∈ out
  · rw [addN_no hc]
    refine (addN_no ?_).symm
    rcases hc with hc | hc
    · exact .inl (h.neg y hc)
    · exact .inr (hm.2 hc)
  · rw [addN_yes hc]
    have hp : 0 ≤ f y := h.pos y (hy.resolve_left fun h => hc (.inl h))
    rw [addN_yes (by rintro (h1 | h1); omega; exact hc (.inr (hm.1 h1)))]
    simp
theorem Iso.addL (h : Iso zs ys fr f) : ∀ {l out : List Int}, (∀ x ∈ out, x ∈ camL zs fr) → (∀ y ∈ l, y < 0 ∨ y ∈ camL zs fr) → (addL out l).map f = Go.Proofs.Ytjefbekdjgmmbaa.addL (out.map f) (l.map f)
  | [], _, _, _ => rfl
  | y :: l, out, hl, hy => by
    have hy1 := hy y List.mem_cons_self
    show (Go.Proofs.Ytjefbekdjgmmbaa.addL (Go.Proofs.Ytjefbekdjgmmbaa.addN out y) l).map f = Go.Proofs.Ytjefbekdjgmmbaa.addL (Go.Proofs.Ytjefbekdjgmmbaa.addN (out.map f) (f y)) (l.map f)
    rw [← h.addN hl hy1]
    refine h.addL (fun x hx => ?_) fun z hz => hy z (List.mem_cons_of_mem _ hz)
    rcases addN_mem.1 hx with hx | ⟨rfl, hp⟩
    · exact hl x hx
    · exact hy1.resolve_left (by omega)
section
variable (hz : ∀ z ∈ zs, (Lit.int .u64 z).wf = true) (h0 : fromE zs fr = 0)
include hz h0
theorem camT_in (i : Nat) : ∀ x ∈ camT zs fr i, x ∈ camL zs fr := fun x hx => by
  obtain ⟨j, hj, e⟩ := List.getElem_of_mem hx
  rw [camL_reach hz h0, ← e, ← nth_get _ _ hj]
  exact (camT_ok i).reach j hj
theorem cam_next (hx : x ∈ camL zs fr) : ∀ y ∈ nxOf zs x, y < 0 ∨ y ∈ camL zs fr := fun y hy => by
  obtain ⟨j, hj, e⟩ := List.getElem_of_mem hx
  rw [← nth_get _ _ hj] at e
  exact camL_closed hz h0 j hj y (by rw [e]; exact hy)
theorem Iso.camT (h : Iso zs ys fr f) : ∀ i, camT ys (fr.map f) i = (Go.Proofs.Ytjefbekdjgmmbaa.camT zs fr i).map f
  | 0 => by
    have := h.addL (l := fr) (out := []) (by intro x hx; cases hx) fun y hy => .inr (camL_fr h0 y hy)
    exact this.symm
  | i + 1 => by
    have ih := Iso.camT h i
    by_cases hi : i < (Go.Proofs.Ytjefbekdjgmmbaa.camT zs fr i).length
    · have hin := camT_in hz h0 i
      have hmem : nth (Go.Proofs.Ytjefbekdjgmmbaa.camT zs fr i) i ∈ camL zs fr := hin _ (nth_mem hi)
      rw [camT_more hi, camT_more (by rw [ih, List.length_map]; exact hi), ih]
      have e : nth ((Go.Proofs.Ytjefbekdjgmmbaa.camT zs fr i).map f) i = f (nth (Go.Proofs.Ytjefbekdjgmmbaa.camT zs fr i) i) := by
        rw [nth_get _ _ (by rw [List.length_map]; exact hi), List.getElem_map, nth_get _ _ hi]
      rw [e]
      have e2 : nxOf ys (f (nth (Go.Proofs.Ytjefbekdjgmmbaa.camT zs fr i) i)) = (nxOf zs (nth (Go.Proofs.Ytjefbekdjgmmbaa.camT zs fr i) i)).map f := h.named _ hmem
      rw [e2]
      exact (h.addL hin (cam_next hz h0 hmem)).symm
    · rw [camT_same (zs := ys) (fr := fr.map f) (by rw [ih, List.length_map]; omega), camT_same (zs := zs) (by omega), ih]
theorem cam_stop {k : Nat} (hk : (camL zs fr).length ≤ k) : camT zs fr k = camL zs fr := by
  have hle : (camT zs fr (camL zs fr).length).length ≤ (camL zs fr).length := sub_length (camT_ok _).nd (camT_in hz h0 _)
  have hN : (camL zs fr).length ≤ zs.length := camT_len hz h0 _
  rw [camT_stop hle hk, ← camT_stop hle hN]
  rfl
/-- The order of the one is the order of the other. -/
theorem Iso.cam (h : Iso zs ys fr f) (hzy : ∀ z ∈ ys, (Lit.int .u64 z).wf = true) (hy : fromE ys (fr.map f) = 0) : camL ys (fr.map f) = (camL zs fr).map f := by
  unfold camL at *
  rw [h.camT hz h0 ys.length]
  refine congrArg _ (cam_stop hz h0 ?_)
  have h2 := camT_len hzy hy zs.length
  rw [h.camT hz h0 zs.length, List.length_map] at h2
  exact h2
end
theorem Iso.plI (h : Iso zs ys fr f) (hl : ∀ x ∈ l, x ∈ camL zs fr) (hy : y < 0 ∨ y ∈ camL zs fr) : plI (l.map f) (f y) = Go.Proofs.Ytjefbekdjgmmbaa.plI l y := by
  have hm := mapf_mem h hl hy
  unfold Go.Proofs.Ytjefbekdjgmmbaa.plI
  by_cases hy2 : y ∈ l
  · rw [if_pos hy2, if_pos (hm.2 hy2)]
    have hidx : ∀ {l : List Int}, (∀ x ∈ l, f x = f y → x = y) → (l.map f).idxOf (f y) = l.idxOf y := by
      intro l
      induction l with
      | nil => intro _; rfl
      | cons a l ih =>
        intro hi
        rw [List.map_cons, List.idxOf_cons, List.idxOf_cons]
        by_cases e : a = y
        · subst e; simp
        · have e2 : ¬ f a = f y := fun e3 => e (hi a List.mem_cons_self e3)
          rw [show (f a == f y) = false by simpa using e2, show (a == y) = false by simpa using e]
          rw [ih fun x hx => hi x (List.mem_cons_of_mem _ hx)]
    rw [hidx fun x hx e => h.inj x (hl x hx) y (hl y hy2) e]
  · rw [if_neg hy2, if_neg (fun hc => hy2 (hm.1 hc))]
/-- The forms are one. -/
theorem Iso.same (h : Iso zs ys fr f) (hz : ∀ z ∈ zs, (Lit.int .u64 z).wf = true) (h0 : fromE zs fr = 0) (hzy : ∀ z ∈ ys, (Lit.int .u64 z).wf = true) (hy : fromE ys (fr.map f) = 0) : sameB zs fr ys (fr.map f) = true := by
  have hc := h.cam hz h0 hzy hy
  refine sameB_iff.2 ⟨?_, ?_⟩
  · unfold formO obsC
    rw [hc, List.map_map]
    refine List.map_congr_left fun x hx => ?_
    show obC zs (camL zs fr) x = obC ys ((camL zs fr).map f) (f x)
    unfold obC
    rw [h.tag x hx, h.body x hx, h.named x hx, List.map_map]
    refine congrArg (fun q => (_, q, _, _)) (List.map_congr_left fun y hy' => ?_)
    exact (h.plI (fun x hx => hx) (cam_next hz h0 hx y hy')).symm
  · unfold formF
    rw [hc, List.map_map]
    exact List.map_congr_left fun x hx => (h.plI (fun x hx => hx) (.inr (camL_fr h0 x hx))).symm
end
end Go.Proofs.Ytjefbekdjgmmbaa
