/-
  Package same: Form.
-/
import Derived.Test.YtjefbekdjgmmbaaSameD
namespace Go.Proofs.Ytjefbekdjgmmbaa
open Go.RowKit

theorem obj_size4 : (Try.prog.info? 41).map (·.size) = some 4 := by kernel_rfl
theorem ObV.lens {w : World} {lo hi : Nat} {r : Raw} {zs l : List Int} {x : Int} (h : ObV w lo hi r (obC zs l x)) (hz : zs.length ≤ 256) : r.rn ≤ maxLen ∧ r.bn ≤ maxLen := by
  have h2 := h.refs.1
  have h3 := h.body.1
  unfold obC named refWords at h2
  unfold obC bodyWords at h3
  simp only [List.length_map, List.length_take, List.length_drop] at h2 h3
  unfold maxLen
  omega
theorem FormIn.zero (w : World) : FormIn w none 0 0 none 0 0 [] [] [] :=
  ⟨Nat.le_refl _, Nat.le_refl _, by omega, by omega, ⟨rfl, ⟨rfl, fun h => absurd h (by omega)⟩, fun j hj => absurd hj (by omega)⟩, fun j hj => absurd hj (by omega), Arr.zero⟩
/-- Two cells of a result are written. -/
theorem set2 {w w5 : World} {B g : Nat} {t : TypeId} {c0 c1 : Value} (hb : Below B w w5) (bx : Box w5 g t #[c0, c1]) (hg : B ≤ g) (a0 a1 : Value) :
    Below B w ((w5.setCell ⟨g, 0, none⟩ a0).setCell ⟨g, 1, none⟩ a1) ∧ Box ((w5.setCell ⟨g, 0, none⟩ a0).setCell ⟨g, 1, none⟩ a1) g t #[a0, a1] ∧ ((w5.setCell ⟨g, 0, none⟩ a0).setCell ⟨g, 1, none⟩ a1).heap.size = w5.heap.size ∧
      ∀ i, i ≠ g → ((w5.setCell ⟨g, 0, none⟩ a0).setCell ⟨g, 1, none⟩ a1).heap[i]? = w5.heap[i]? :=
  ⟨below_set (below_set hb hg _ _) hg _ _, (bx.set 0 a0).set 1 a1, by simp [World.setCell], fun i hi => by rw [heap_setOther _ hi, heap_setOther _ hi]⟩

set_option maxRecDepth 8000 in
set_option maxHeartbeats 1000000 in
theorem sameForm_bad (A F : Option Addr) (n c nf cf : Nat) (zs fr : List Int) (w : World) (h : ArenaFrom w A F n c nf cf zs fr) (h0 : fromE zs fr ≠ 0) :
    Calls Try.prog 10 #[.slice A n c, .slice F nf cf] w (SFormP zs fr w) := by
  have b0 := (Below.refl _ w).alloc (Nat.le_refl _) (.cells #[.slice none 0 0, .slice none 0 0] 26)
  have HX := Lib.hid (Box.new w 26 #[.slice none 0 0, .slice none 0 0])
  have h1 := h.later b0
  have HO := Lib.hid (sameOrd_any A F n c nf cf zs fr (w.alloc (.cells #[.slice none 0 0, .slice none 0 0] 26)) (by unfold maxLen; have := h.hn; omega) h.hnc h1.arena (by unfold maxLen; have := h.hnf; omega) h1.from_)
  unfold OrderP at HO
  have HB := Lib.hid b0
  have hbz : (fromE zs fr != 0) = true := by simpa using h0
  have H0 := Lib.hid h0
  clear b0 h h1 h0
  go_enter Try.func10, Try.ntmps10
  go_wp2_with fail
  refine HO.out.mono ?_
  rintro e w1 ⟨A1, k1, c1, rfl, b1, _, _⟩
  have HB1 := Lib.hid (bthen HB.out b1)
  have HX1 := Lib.hid (HX.out.below b1 HX.out.lt)
  have s0 : w1.frozen? ⟨w.heap.size, 0, none⟩ = false := HX1.out.soft 0
  have s1 : w1.frozen? ⟨w.heap.size, 1, none⟩ = false := HX1.out.soft 1
  have r0 : w1.cell? ⟨w.heap.size, 0, none⟩ = some (.slice none 0 0) := HX1.out.cell 0
  have r1 : w1.cell? ⟨w.heap.size, 1, none⟩ = some (.slice none 0 0) := HX1.out.cell 1
  clear b1 HB HX HO
  go_wp2
  obtain ⟨z1, z2, _, _⟩ := set2 HB1.out HX1.out (Nat.le_refl _) (.slice none 0 0) (.slice none 0 0)
  generalize ((w1.setCell ⟨w.heap.size, 0, none⟩ (.slice none 0 0)).setCell ⟨w.heap.size, 1, none⟩ (.slice none 0 0)) = W5 at *
  have x0 : W5.cell? ⟨w.heap.size, 0, none⟩ = some (.slice none 0 0) := z2.cell 0
  have x1 : W5.cell? ⟨w.heap.size, 1, none⟩ = some (.slice none 0 0) := z2.cell 1
  refine bodyPost_ret (v := .tuple #[.agg #[.slice none 0 0, .slice none 0 0], .int .i64 (fromE zs fr)]) (by simp [results, Try.results10, go_sem, x0, x1]) rfl ⟨none, 0, 0, none, 0, 0, [], rfl, z1, ?_⟩
  rw [sfO_bad H0.out, sfF_bad H0.out]
  exact FormIn.zero _


section
variable {P : Program} {md : Region.Mode} {ops : Array Oper} {Q : Exit → Act → World → Prop} {S : World → Prop} {z : Nat}
/-- Two may come up; three. -/
theorem anyY_2 {i j : Nat} {fuel : Nat} {listed : Array Bool} {a : Act} {w : World} (hr : Region.ready md ops listed = [i, j])
    (hi : wpOp P ops Q i (fun a' w' => (listed.getD z true = true ∨ i = z ∨ S w') ∧ anyY P md ops Q S z fuel (listed.setIfInBounds i true) a' w') a w)
    (hj : wpOp P ops Q j (fun a' w' => (listed.getD z true = true ∨ j = z ∨ S w') ∧ anyY P md ops Q S z fuel (listed.setIfInBounds j true) a' w') a w) : anyY P md ops Q S z (fuel + 1) listed a w := by
  refine ⟨fun h0 => absurd (hr.symm.trans h0) (by simp), fun k hk => ?_⟩
  rw [hr] at hk
  rcases List.mem_cons.1 hk with rfl | hk
  · exact hi
  · obtain rfl := List.mem_singleton.1 hk
    exact hj
theorem anyY_3 {i j k : Nat} {fuel : Nat} {listed : Array Bool} {a : Act} {w : World} (hr : Region.ready md ops listed = [i, j, k])
    (hi : wpOp P ops Q i (fun a' w' => (listed.getD z true = true ∨ i = z ∨ S w') ∧ anyY P md ops Q S z fuel (listed.setIfInBounds i true) a' w') a w)
    (hj : wpOp P ops Q j (fun a' w' => (listed.getD z true = true ∨ j = z ∨ S w') ∧ anyY P md ops Q S z fuel (listed.setIfInBounds j true) a' w') a w)
    (hk : wpOp P ops Q k (fun a' w' => (listed.getD z true = true ∨ k = z ∨ S w') ∧ anyY P md ops Q S z fuel (listed.setIfInBounds k true) a' w') a w) : anyY P md ops Q S z (fuel + 1) listed a w := by
  refine ⟨fun h0 => absurd (hr.symm.trans h0) (by simp), fun q hq => ?_⟩
  rw [hr] at hq
  rcases List.mem_cons.1 hq with rfl | hq
  · exact hi
  rcases List.mem_cons.1 hq with rfl | hq
  · exact hj
  · obtain rfl := List.mem_singleton.1 hq
    exact hk
end
def BelowW (W w : World) : Prop := Below W.heap.size W w
/-- What a form's rows, its places and its variable are, each as soon as it is made. -/
structure F17 (W : World) (nd nf : Nat) (L : List Int) (ga gb gc : Option Nat) (w : World) : Prop where
  below : BelowW W w
  ha : ∀ g, ga = some g → W.heap.size ≤ g ∧ g < w.heap.size ∧ OwnG rawC 4 41 w g (.slice (some ⟨g, 0, none⟩) nd nd) (List.replicate nd zeroRaw)
  hb : ∀ g, gb = some g → W.heap.size ≤ g ∧ g < w.heap.size ∧ Whole .i64 3 w g L
  hc : ∀ g, gc = some g → W.heap.size ≤ g ∧ g < w.heap.size ∧ Box w g 26 #[.slice none 0 0, .slice none 0 0]
  ab : ∀ g g', ga = some g → gb = some g' → g ≠ g'
  ac : ∀ g g', ga = some g → gc = some g' → g ≠ g'
  bc : ∀ g g', gb = some g → gc = some g' → g ≠ g'
/-- .. all of it, and the variable written. -/
structure F18 (W : World) (nd nf : Nat) (L : List Int) (ga gb gc : Nat) (w : World) : Prop where
  below : BelowW W w
  own : OwnG rawC 4 41 w ga (.slice (some ⟨ga, 0, none⟩) nd nd) (List.replicate nd zeroRaw)
  row : Whole .i64 3 w gb L
  box : Box w gc 26 #[.slice (some ⟨ga, 0, none⟩) nd nd, .slice (some ⟨gb, 0, none⟩) nf nf]
  oa : W.heap.size ≤ ga
  ob : W.heap.size ≤ gb
  oc : W.heap.size ≤ gc
  la : ga < w.heap.size
  ab : ga ≠ gb
  ac : ga ≠ gc
section
variable {W w w' : World} {nd nf : Nat} {L : List Int} {ga gb gc : Option Nat} {g a b : Nat}
theorem F17.later (h : F17 W nd nf L ga gb gc w) (hb : Below w.heap.size w w') : F17 W nd nf L ga gb gc w' :=
  ⟨Below.trans h.below (hb.mono (Below.size h.below)), fun g e => let ⟨p1, p2, p3⟩ := h.ha g e; ⟨p1, Nat.lt_of_lt_of_le p2 hb.size, p3.below hb⟩, fun g e => let ⟨p1, p2, p3⟩ := h.hb g e; ⟨p1, Nat.lt_of_lt_of_le p2 hb.size, p3.below hb p2⟩, fun g e => let ⟨p1, p2, p3⟩ := h.hc g e; ⟨p1, Nat.lt_of_lt_of_le p2 hb.size, p3.below hb p2⟩, h.ab, h.ac, h.bc⟩
theorem F17.make (h : F17 W nd nf L none gb gc w) (hb : Below w.heap.size w w') (ho : OwnG rawC 4 41 w' w.heap.size (.slice (some ⟨w.heap.size, 0, none⟩) nd nd) (List.replicate nd zeroRaw)) (hl : w.heap.size < w'.heap.size) : F17 W nd nf L (some w.heap.size) gb gc w' := by
  have h' := h.later hb
  have hs := Below.size h.below
  refine ⟨h'.below, ?_, h'.hb, h'.hc, ?_, ?_, h'.bc⟩
  · rintro g ⟨⟩
    exact ⟨hs, hl, ho⟩
  · rintro g g' ⟨⟩ e
    have := (h.hb g' e).2.1
    omega
  · rintro g g' ⟨⟩ e
    have := (h.hc g' e).2.1
    omega
theorem F17.call (h : F17 W nd nf L ga none gc w) (hb : Below w.heap.size w w') (hg : w.heap.size ≤ g) (hW : Whole .i64 3 w' g L) : F17 W nd nf L ga (some g) gc w' := by
  have h' := h.later hb
  have hs := Below.size h.below
  refine ⟨h'.below, h'.ha, ?_, h'.hc, ?_, h'.ac, ?_⟩
  · rintro g ⟨⟩
    exact ⟨Nat.le_trans hs hg, hW.lt, hW⟩
  · rintro g1 g' e ⟨⟩
    have := (h.ha g1 e).2.1
    omega
  · rintro g1 g' ⟨⟩ e
    have := (h.hc g' e).2.1
    omega
theorem F17.alloc (h : F17 W nd nf L ga gb none w) : F17 W nd nf L ga gb (some w.heap.size) (w.alloc (.cells #[.slice none 0 0, .slice none 0 0] 26)) := by
  have hb := (Below.refl _ w).alloc (Nat.le_refl _) (.cells #[.slice none 0 0, .slice none 0 0] 26)
  have h' := h.later hb
  have hs := Below.size h.below
  have hx := Box.new w 26 #[.slice none 0 0, .slice none 0 0]
  refine ⟨h'.below, h'.ha, h'.hb, ?_, h'.ab, ?_, ?_⟩
  · rintro g ⟨⟩
    exact ⟨hs, hx.lt, hx⟩
  · rintro g1 g' e ⟨⟩
    have := (h.ha g1 e).2.1
    omega
  · rintro g1 g' e ⟨⟩
    have := (h.hb g1 e).2.1
    omega
theorem F17.box (h : F17 W nd nf L (some a) (some b) (some g) w) : w.cell? ⟨g, 0, none⟩ = some (.slice none 0 0) ∧ w.cell? ⟨g, 1, none⟩ = some (.slice none 0 0) ∧ w.frozen? ⟨g, 0, none⟩ = false ∧ w.frozen? ⟨g, 1, none⟩ = false ∧ True :=
  let ⟨_, _, p⟩ := h.hc g rfl
  ⟨p.cell 0, p.cell 1, p.soft 0, p.soft 1, trivial⟩
theorem F17.done (h : F17 W nd nf L (some a) (some b) (some g) w) : F18 W nd nf L a b g ((w.setCell ⟨g, 0, none⟩ (.slice (some ⟨a, 0, none⟩) nd nd)).setCell ⟨g, 1, none⟩ (.slice (some ⟨b, 0, none⟩) nf nf)) := by
  obtain ⟨p1, p2, p3⟩ := h.hc g rfl
  obtain ⟨a1, a2, a3⟩ := h.ha a rfl
  obtain ⟨b1, b2, b3⟩ := h.hb b rfl
  have hab := h.ab _ _ rfl rfl
  have hac := h.ac _ _ rfl rfl
  have hbc := h.bc _ _ rfl rfl
  refine ⟨below_set (below_set h.below p1 _ _) p1 _ _, a3.keepAt (by rw [heap_setOther _ hac, heap_setOther _ hac]), ⟨by rw [heap_setOther _ hbc, heap_setOther _ hbc]; exact b3.1, b3.2⟩, (p3.set 0 _).set 1 _, a1, b1, p1, by rw [size_setCell, size_setCell]; exact a2, hab, hac⟩
end
/-- What holds while the spots are gone over: 'k' of them. -/
structure F2I (zs ord : List Int) (raws : List Raw) (gn ga nd : Nat) (w6 : World) (k : Nat) (cur : List Raw) (wr : World) : Prop where
  own : OwnG rawC 4 41 wr ga (.slice (some ⟨ga, 0, none⟩) nd nd) cur
  len : cur.length = nd
  put : ∀ j, j < k → (st zs j : Int) ∈ ord → nthG cur (plI ord (st zs j)).toNat = nthG raws j
  map : MapF Try.prog .i64 .i64 3 3 wr gn (k + 1) (nmT zs ord k)
  fr : TrF gn ga w6.heap.size w6 wr
/-- .. while the objects get their references' new names: 'i' of them. -/
structure F3I (zs ord : List Int) (ga nd B0 : Nat) (w7 : World) (old : List Raw) (i : Nat) (cur : List Raw) (wr : World) : Prop where
  own : OwnG rawC 4 41 wr ga (.slice (some ⟨ga, 0, none⟩) nd nd) cur
  len : cur.length = nd
  obs : ∀ j, j < i → ObV wr B0 wr.heap.size (nthG cur j) (obC zs ord (nth ord j)) ∧ Off (some ga) (nthG cur j).ra (nthG cur j).rn ∧ Off (some ga) (nthG cur j).ba (nthG cur j).bn
  old : ∀ j, i ≤ j → nthG cur j = nthG old j
  fr : TrF ga ga w7.heap.size w7 wr
theorem plI_one {ord : List Int} {x y : Int} (hx : x ∈ ord) (hy : y ∈ ord) (h : plI ord x = plI ord y) : x = y := by
  obtain ⟨a, ha, _, h1⟩ := plI_in hx
  obtain ⟨b, hb, _, h2⟩ := plI_in hy
  obtain rfl : a = b := by omega
  rw [← h1, h2]
section
variable {zs ord : List Int} {raws cur old : List Raw} {gn ga nd k p i B0 : Nat} {w6 w7 w8 wr wr' : World}
theorem F2I.next (h : F2I zs ord raws gn ga nd w6 k cur wr) (hb : Below wr.heap.size wr wr') : F2I zs ord raws gn ga nd w6 k cur wr' :=
  ⟨h.own.below hb, h.len, h.put, h.map.below hb h.map.lt, h.fr.trans (TrF.of_below (hb.mono h.fr.size))⟩
theorem F2I.skip (h : F2I zs ord raws gn ga nd w6 k cur wr) (hn : (st zs k : Int) ∉ ord) : F2I zs ord raws gn ga nd w6 (k + 1) cur wr :=
  ⟨h.own, h.len, fun j hj hin => by
    rcases Nat.lt_succ_iff_lt_or_eq.1 hj with h1 | h1
    · exact h.put j h1 hin
    · subst h1; exact absurd hin hn, by rw [nmT_miss hn]; exact h.map.mono (by omega), h.fr⟩
theorem F2I.note (h : F2I zs ord raws gn ga nd w6 k cur wr) (hg : wr.grownBy w8 (some gn)) (hne : gn ≠ ga) : OwnG rawC 4 41 w8 ga (.slice (some ⟨ga, 0, none⟩) nd nd) cur ∧ TrF gn ga w6.heap.size w6 w8 := by
  have hl := h.own.form
  refine ⟨?_, h.fr.trans ⟨hg.os, hg.tape, hg.output, hg.size, fun i hi h1 _ => hg.block i (Nat.lt_of_lt_of_le hi h.fr.size) (by intro e; injection e with e; exact h1 e)⟩⟩
  rcases Nat.lt_or_ge ga wr.heap.size with h1 | h1
  · exact h.own.keepAt (hg.block ga h1 (by intro e; injection e with e; exact hne e.symm))
  · exfalso
    rcases h.own.2 with ⟨h2, _⟩ | ⟨g', cap, c, h2, _, hh, _⟩
    · cases h2
    · injection h2 with h2
      injection h2 with h2
      injection h2 with h2
      subst h2
      rw [Array.getElem?_eq_none h1] at hh
      cases hh
theorem F2I.store (h : F2I zs ord raws gn ga nd w6 k cur wr) (hin : (st zs k : Int) ∈ ord) (hb : k < (begins zs 0).length) (hm : MapF Try.prog .i64 .i64 3 3 w8 gn (k + 1 + 1) (Go.Proofs.Ytjefbekdjgmmbaa.put (nmT zs ord k) k (plI ord (st zs k)))) (hg : wr.grownBy w8 (some gn)) (hne : gn ≠ ga) (hp : plI ord (st zs k) = p) (hpn : p < nd) {r : Raw} (hr : nthG raws k = r) :
    F2I zs ord raws gn ga nd w6 (k + 1) (cur.set p r) ((((w8.setCell ⟨ga, p * 4, none⟩ (.int .i64 r.t)).setCell ⟨ga, p * 4 + 1, none⟩ (.slice r.ra r.rn r.rc)).setCell ⟨ga, p * 4 + 2, none⟩ (.slice r.ba r.bn r.bc)).setCell ⟨ga, p * 4 + 3, none⟩ (.bool r.f)) := by
  obtain ⟨h1, h2⟩ := h.note hg hne
  refine ⟨h1.put4 p r (by rw [h.len]; exact hpn), by simpa using h.len, fun j hj hin2 => ?_, ?_, h2.trans ⟨rfl, rfl, rfl, by simp [World.setCell], fun i _ _ h3 => by rw [heap_setOther _ h3, heap_setOther _ h3, heap_setOther _ h3, heap_setOther _ h3]⟩⟩
  · rcases Nat.lt_succ_iff_lt_or_eq.1 hj with h3 | h3
    · obtain ⟨a, ha, hal, _⟩ := plI_in hin2
      have hap : p ≠ a := fun e => by
        have h4 := plI_one hin2 hin (by omega)
        have := st_inj (zs := zs) (i := j) (j := k) (by omega) hb (by omega)
        omega
      have := h.put j h3 hin2
      rw [ha, Int.toNat_natCast] at *
      rw [nthG_put_other _ _ hap]
      exact this
    · subst h3
      rw [hp, Int.toNat_natCast, nthG_put_same _ _ _ (by rw [h.len]; exact hpn), hr]
  · rw [nmT_hit hin]
    exact (((hm.setOther (Ne.symm hne) _ _).setOther (Ne.symm hne) _ _).setOther (Ne.symm hne) _ _).setOther (Ne.symm hne) _ _
theorem F3I.next (h : F3I zs ord ga nd B0 w7 old i cur wr) (hb : Below wr.heap.size wr wr') : F3I zs ord ga nd B0 w7 old i cur wr' :=
  ⟨h.own.below hb, h.len, fun j hj => let ⟨a, b, c⟩ := h.obs j hj; ⟨(a.below hb (Nat.le_refl _)).more hb.size, b, c⟩, h.old, h.fr.trans (TrF.of_below (hb.mono h.fr.size))⟩
theorem F3I.store (h : F3I zs ord ga nd B0 w7 old i cur wr) (hi : i < nd) {g rn : Nat} {r : Raw} (hr : nthG old i = r)
    (hV : ObV wr B0 wr.heap.size { r with ra := some ⟨g, 0, none⟩, rn := rn, rc := rn } (obC zs ord (nth ord i))) (h1 : Off (some ga) (some ⟨g, 0, none⟩) rn) (h2 : Off (some ga) r.ba r.bn) :
    F3I zs ord ga nd B0 w7 old (i + 1) (cur.set i { r with ra := some ⟨g, 0, none⟩, rn := rn, rc := rn }) (wr.setCell ⟨ga, i * 4 + 1, none⟩ (.slice (some ⟨g, 0, none⟩) rn rn)) := by
  have hl := h.len
  have hri : nthG cur i = r := by rw [h.old i (Nat.le_refl _), hr]
  have hk : ∀ q, q < wr.heap.size → some ga ≠ some q → (wr.setCell ⟨ga, i * 4 + 1, none⟩ (.slice (some ⟨g, 0, none⟩) rn rn)).heap[q]? = wr.heap[q]? := fun q _ hq => heap_setOther _ (fun e => hq (by rw [e])) _ _
  refine ⟨h.own.setOne i 1 _ _ (by omega) (by omega) (by rw [hri]; rfl), by simpa using hl, fun j hj => ?_, fun j hj => ?_, h.fr.trans ⟨rfl, rfl, rfl, by simp [World.setCell], fun q _ h3 _ => heap_setOther _ h3 _ _⟩⟩
  · rw [size_setCell]
    rcases Nat.lt_succ_iff_lt_or_eq.1 hj with h3 | h3
    · rw [nthG_put_other _ _ (by omega)]
      obtain ⟨a, b, c⟩ := h.obs j h3
      exact ⟨a.keepOff b c hk, b, c⟩
    · subst h3
      rw [nthG_put_same _ _ _ (by omega)]
      exact ⟨hV.keepOff h1 h2 hk, h1, h2⟩
  · rw [nthG_put_other _ _ (by omega)]
    exact h.old j (by omega)
end
/-- The references of an object that is reached, by their new names. -/
theorem refs_new {zs ord : List Int} {s : Nat} (hz : ∀ z ∈ zs, (Lit.int .u64 z).wf = true) (h : arErr zs = 0) (hs : (s : Int) ∈ livesI zs) (hcl : ∀ y ∈ nxOf zs s, y < 0 ∨ y ∈ ord) (hneg : (-1 : Int) ∉ ord) :
    (refsX zs s).map (fun r => (nmT zs ord (begins zs 0).length r).getD 0) = (named zs s).map (plI ord) := by
  obtain ⟨h1, h2⟩ := refs_at hz h hs
  rw [← h1, List.map_map]
  refine List.map_congr_left fun r hr => ?_
  have hi := h2 r hr
  refine nmT_ref hi ?_ hneg
  rcases hcl (atI zs r) (by unfold nxOf; rw [Int.toNat_natCast, ← h1]; exact List.mem_map.2 ⟨r, hr, rfl⟩) with h3 | h3
  · exact .inl (hi.resolve_right fun h4 => by have := (atI_neg hi).1 h3; omega)
  · exact .inr h3
/-- What holds while the words in the order get their places. -/
structure F1I (ord : List Int) (gp : Nat) (w : World) (k : Nat) (wr : World) : Prop where
  map : MapF Try.prog .i64 .i64 3 3 wr gp k (plT ord k)
  below : Below gp w wr

set_option maxRecDepth 8000 in
set_option maxHeartbeats 4000000 in
theorem sameForm_good (A F : Option Addr) (n c nf cf : Nat) (zs fr : List Int) (w : World) (h : ArenaFrom w A F n c nf cf zs fr) (h0 : fromE zs fr = 0) :
    Calls Try.prog 10 #[.slice A n c, .slice F nf cf] w (SFormP zs fr w) := by
  obtain ⟨hao, hfo⟩ := fromE_zero h0
  have h256 := arena_len hao
  have hsp := (arErr_zero hao).1
  have hL := spList_ok hsp
  obtain ⟨m, hm⟩ : ∃ m, (begins zs 0).length = m := ⟨_, rfl⟩
  have hbl := begins_len (zs := zs) (a := 0)
  have hLl : (spList zs).length = m := by rw [hL, List.length_map, hm]
  have hspot : ∀ k, k < m → nthG (spList zs) k = spOf zs (st zs k) ∧ st zs k < 256 := fun k hk => by
    have h1 := begins_mem (st_mem (zs := zs) (k := k) (by omega))
    exact ⟨by rw [hL, nthG_map _ _ _ (by omega)]; rfl, by omega⟩
  have hn : n ≤ maxLen := by unfold maxLen; have := h.hn; omega
  have ha := h.arena
  have HWF := Lib.hid ha.2.1
  have b0 := (Below.refl _ w).alloc (Nat.le_refl _) (.cells #[.slice none 0 0, .slice none 0 0] 26)
  have HX := Lib.hid (Box.new w 26 #[.slice none 0 0, .slice none 0 0])
  have h1 := h.later b0
  have HO := Lib.hid (sameOrd_any A F n c nf cf zs fr (w.alloc (.cells #[.slice none 0 0, .slice none 0 0] 26)) hn h.hnc h1.arena (by unfold maxLen; have := h.hnf; omega) h1.from_)
  unfold OrderP at HO
  rw [orderO_ok h0, h0] at HO
  obtain ⟨ord, hord⟩ : ∃ l, camL zs fr = l := ⟨_, rfl⟩
  rw [hord] at HO
  have HND : Hid ord.Nodup := by show ord.Nodup; rw [← hord]; exact camL_nd
  have HLV : Hid (∀ x ∈ ord, x ∈ livesI zs) := by show ∀ x ∈ ord, _; rw [← hord]; exact camL_lives ha.2.1 h0
  have hm256 : ord.length ≤ 256 := by rw [← hord]; exact camL_len ha.2.1 h0
  have HB := Lib.hid b0
  have HOR := Lib.hid hord
  have HS := Lib.hid hspot
  have HM := Lib.hid hm
  have HZ0 := Lib.hid h0
  have HAO := Lib.hid hao
  have HNF := Lib.hid h.hnf
  have HF := Lib.hid h.from_
  have HSP := Lib.hid (fun wx (hb : Below w.heap.size w wx) => Spots_any A n c zs wx hn (ha.later hb))
  have HOB := Lib.hid (fun wx (hb : Below w.heap.size w wx) => Objects_any A n c zs wx hn h.hnc (ha.later hb))
  have hm2 : m ≤ 256 := by omega
  unfold SpotsP at HSP
  rw [hLl, hsp] at HSP
  unfold ObjectsP at HOB
  rw [hao] at HOB
  have hmm := @run_makeMap Try.prog
  have h1wf : (Lit.int .i64 (-1)).wf = true := by decide
  clear b0 h h1 h0 ha hn hao hfo h256 hsp hL hm hbl hLl hspot hord
  go_enter Try.func10, Try.ntmps10
  go_wp2_with fail
  refine HO.out.mono ?_
  rintro e w1 ⟨A1, nd, c1, rfl, b1, _, hA1⟩
  have HB1 := Lib.hid (bthen HB.out b1)
  have HX1 := Lib.hid (HX.out.below b1 HX.out.lt)
  have hndl : ord.length = nd := hA1.1
  have hnd : nd ≤ 256 := by omega
  have HNL := Lib.hid hndl
  have HA1 := Lib.hid hA1
  have HS1 := Lib.hid (HSP.out w1 HB1.out)
  clear b1 HB HX HO hndl hm256 hA1
  go_wp2_with fail
  refine HS1.out.mono ?_
  rintro e w2 ⟨A2, c2, rfl, b2, _, hA2, _⟩
  have HB2 := Lib.hid (bthen HB1.out b2)
  have HX2 := Lib.hid (HX1.out.below b2 HX1.out.lt)
  have HA1 := Lib.hid (HA1.out.later b2)
  have HA2 := Lib.hid hA2
  have HO2 := Lib.hid (HOB.out w2 HB2.out)
  clear b2 HS1 HSP HB1 HX1 hA2 HOB
  go_wp2_with fail
  refine HO2.out.mono ?_
  rintro e w3 ⟨OA, k3, oc, rfl, b3, _, hob⟩
  rcases hob with ⟨hob, _⟩ | ⟨_, hk3, raws, hraws, hobv⟩
  · exact absurd rfl hob
  rw [HM.out] at hk3
  have hk3 := hk3.symm
  subst hk3
  have HB3 := Lib.hid (bthen HB2.out b3)
  have HX3 := Lib.hid (HX2.out.below b3 HX2.out.lt)
  have HA1 := Lib.hid (HA1.out.later b3)
  have HA2 := Lib.hid ((HA2.out.below b3 (Nat.le_refl _)).more b3.size)
  have HRW := Lib.hid hraws
  have HOV : Hid (∀ j, j < m → ObV w3 (w.heap.size + 1) w3.heap.size (nthG raws j) (obOf zs (st zs j))) := fun j hj => (hobv j hj).less (by have := HX2.out.lt; omega)
  clear b3 HO2 hraws hobv HB2 HX2
  go_wp2_with fail
  have bm : Below w3.heap.size w3 (w3.alloc (.map #[] 0)) := (Below.refl _ w3).alloc (Nat.le_refl _) _
  have HI : Hid (F1I ord w3.heap.size w3 0 (w3.alloc (.map #[] 0))) := ⟨by rw [plT_zero]; exact MapF.made Try.prog .i64 .i64 3 3 w3, bm⟩
  clear bm
  generalize (w3.alloc (.map #[] 0)) = W4 at *
  obtain ⟨gp, hgp⟩ : ∃ g, w3.heap.size = g := ⟨_, rfl⟩
  have HGP := Lib.hid hgp
  rw [hgp] at HI
  rw [hgp]
  clear hgp
  go_loopw [52] (fun i wr => ∃ k : Nat, k ≤ nd ∧ i = .int .i64 k ∧ Hid (F1I ord gp w3 k wr)) (fun i _ => nd - (intOf i).toNat)
  case atStart => exact ⟨0, Nat.zero_le _, rfl, HI⟩
  case round =>
    obtain ⟨k, hk, rfl, hI⟩ := hrel
    clear HI
    by_cases hlt : k < nd
    · have hA := HA1.out.below (show Below w3.heap.size w3 wr by rw [HGP.out]; exact hI.out.below) (Nat.le_refl _)
      obtain ⟨b, off, rfl, _, hc⟩ := hA.2.2 (by omega)
      have c1 := hc k hlt
      have hkl : k < ord.length := by rw [HNL.out]; exact hlt
      have hx : (Lit.int .i64 (nth ord k)).wf = true := hA.2.1 _ (nth_mem hkl)
      have hkw : (Lit.int .i64 (k : Int)).wf = true := wf_i64.2 (by omega)
      obtain ⟨w5, hrun, hm5, hg5⟩ := hI.out.map.store placesT (by unfold maxLen; omega) hx hkw
      rw [← plT_next HND.out hkl] at hm5
      have HN : Hid (F1I ord gp w3 (k + 1) w5) := ⟨hm5, hI.out.below.trans (grown_below hg5 (Nat.le_refl _) (Nat.le_of_lt hI.out.map.lt))⟩
      clear hA hc hm5 hg5 hI hx hkl
      generalize nth ord k = X at *
      go_wp2
      go_roundw
      case rel => exact ⟨k + 1, by omega, by go_num, HN⟩
      case measure => simp [intOf]; omega
    · obtain rfl : k = nd := by omega
      have HMP : Hid (MapF Try.prog .i64 .i64 3 3 wr gp k (plT ord k)) := hI.out.map
      have HBW : Hid (Below w3.heap.size w3 wr) := by show Below _ _ _; rw [HGP.out]; exact hI.out.below
      clear hI
      generalize k = nd at *
      have HX5 := Lib.hid (HX3.out.below HBW.out HX3.out.lt)
      have HB5 := Lib.hid (bthen HB3.out HBW.out)
      have HA1 := Lib.hid (HA1.out.later HBW.out)
      have HA2 := Lib.hid ((HA2.out.below HBW.out (Nat.le_refl _)).more HBW.out.size)
      have HRW := Lib.hid ((HRW.out.below HBW.out (Nat.le_refl _)).more HBW.out.size)
      have HOV : Hid (∀ j, j < m → ObV wr (w.heap.size + 1) wr.heap.size (nthG raws j) (obOf zs (st zs j))) := fun j hj => ((HOV.out j hj).below HBW.out (Nat.le_refl _)).more HBW.out.size
      clear HX3 HB3 HBW HGP
      clear W4
      generalize wr = w4 at *
      go_wp2_with (refine wpList_insert_map placesT _ rfl _ _ _ rfl rfl rfl rfl (MapF.made Try.prog .i64 .i64 3 3 w4) (by unfold maxLen; omega) h1wf h1wf ?_; intro w5 hm5 hg5)
      have HRN := Lib.hid (fun wx (hb : BelowW w4 wx) => renamed_any F nf cf gp nd fr (plT ord nd) wx HNF.out (HF.out.later (bthen HB5.out hb)) (HMP.out.below hb HMP.out.lt))
      have hrl : (fr.map fun v => (plT ord nd v).getD 0) = formF zs fr := by
        unfold formF
        rw [HOR.out]
        refine List.map_congr_left fun x hx => ?_
        have hxo : x ∈ ord := by rw [← HOR.out]; exact camL_fr HZ0.out x hx
        rw [← HNL.out, plT_all]
        simp only [if_pos hxo]; rfl
      rw [hrl] at HRN
      have HNM : Hid (MapF Try.prog .i64 .i64 3 3 w5 w4.heap.size 1 (nmT zs ord 0)) := by show MapF _ _ _ _ _ _ _ _ _; rw [nmT_zero]; exact hm5
      have hB5 : BelowW w4 w5 := ((Below.refl _ w4).alloc (Nat.le_refl _) _).trans (grown_below hg5 (Nat.le_refl _) (by simp))
      clear hm5 hg5 hrl
      have HRN := Lib.hid (fun wx (hb : BelowW (w5.drewN 1) wx) => HRN.out wx (Below.trans hB5 (Below.mono (show Below w5.heap.size w5 wx from (below_drewN (Below.refl _ _) 1).trans hb) (Below.size hB5))))
      have HB45 := Lib.hid hB5
      clear hB5
      go_wp2_with fail
      go_cut [14] (fun s wx => ∃ ga gb gc, s = .pointer (some ⟨gc, 0, none⟩) ∧ Hid (F18 (w5.drewN 1) nd nf (formF zs fr) ga gb gc wx))
      case first =>
        refine wp_region_Y 8 (fun _ => True) (by kernel_rfl) ?_
        change anyY _ _ _ _ _ _ _ _ _ (w5.drewN 1)
        have HQ0 : Hid (F17 (w5.drewN 1) nd nf (formF zs fr) none none none (w5.drewN 1)) := ⟨Below.refl _ _, (by intro _ e; cases e), (by intro _ e; cases e), (by intro _ e; cases e), (by intro _ _ e; cases e), (by intro _ _ e; cases e), (by intro _ _ e; cases e)⟩
        clear HB45 HNM
        generalize (w5.drewN 1) = WX at *
        refine anyY_pure (i := 0) (v := .slice A1 nd c1) rfl rfl rfl (by kernel_rfl) (by kernel_rfl) (by kernel_rfl) (fun _ _ _ h => h) (Or.inl ⟨by rfl, fun wx _ => ?_⟩) (.inr trivial) ?_
        · go_simp
        refine anyY_pure (i := 1) (v := .int .i64 nd) rfl rfl rfl (by kernel_rfl) (by kernel_rfl) (by kernel_rfl) (fun _ _ _ h => h) (Or.inl ⟨by rfl, fun wx _ => ?_⟩) (.inr trivial) ?_
        · go_simp
        refine anyY_pure (i := 3) (v := .slice F nf cf) rfl rfl rfl (by kernel_rfl) (by kernel_rfl) (by kernel_rfl) (fun _ _ _ h => h) (Or.inl ⟨by rfl, fun wx _ => ?_⟩) (.inr trivial) ?_
        · go_simp
        refine anyY_pure (i := 4) (v := .map (some gp)) rfl rfl rfl (by kernel_rfl) (by kernel_rfl) (by kernel_rfl) (fun _ _ _ h => h) (Or.inl ⟨by rfl, fun wx _ => ?_⟩) (.inr trivial) ?_
        · go_simp
        refine anyY_3 (i := 2) (j := 5) (k := 7) (by kernel_rfl) ?_ ?_ ?_
        · obtain ⟨wq1, hmk, ho, hb, hl⟩ := run_make_raws (P := Try.prog) (t := 24) Try.underlying24 obj_info (by omega) nd (by omega) WX
          have HQ1 := Lib.hid (HQ0.out.make hb ho hl)
          refine wpOp_step rfl fun K' hK' => ?_
          go_simp
          refine hK' _ _ ⟨.inr (.inr trivial), ?_⟩
          clear hK' hmk ho hb hl
          generalize WX.heap.size = gA at *
          refine anyY_2 (i := 5) (j := 7) (by kernel_rfl) ?_ ?_
          · refine wpOp_step rfl fun K' hK' => ?_
            go_simp
            refine (HRN.out wq1 HQ1.out.below).mono ?_
            rintro e wq2 ⟨gB, rfl, hg, hb, hW⟩
            have HQ2 := Lib.hid (HQ1.out.call hb hg hW)
            refine hK' _ _ ⟨.inr (.inr trivial), ?_⟩
            clear hK' hg hb hW
            refine anyY_pure (i := 6) (v := .agg #[.slice (some ⟨gA, 0, none⟩) nd nd, .slice (some ⟨gB, 0, none⟩) nf nf]) rfl rfl rfl (by kernel_rfl) (by kernel_rfl) (by kernel_rfl) (fun _ _ _ h => h) (Or.inl ⟨by rfl, fun wx _ => ?_⟩) (.inr trivial) ?_
            · go_simp
            refine anyY_only (i := 7) (by kernel_rfl) ?_
            have HQ3 := Lib.hid HQ2.out.alloc
            refine wpOp_step rfl fun K' hK' => ?_
            go_simp
            refine hK' _ _ ⟨.inr (.inr trivial), ?_⟩
            clear hK'
            generalize (wq2.alloc (.cells #[.slice none 0 0, .slice none 0 0] 26)) = wq3 at *
            generalize wq2.heap.size = gC at *
            obtain ⟨q1, q2, q3, q4, q5⟩ := HQ3.out.box
            have HD := Lib.hid HQ3.out.done
            refine anyY_only (i := 8) (by kernel_rfl) ?_
            refine wpOp_step rfl fun K' hK' => ?_
            go_simp
            refine hK' _ _ ⟨.inr (.inl rfl), anyY_done (by kernel_rfl) ?_ _⟩
            clear hK' q1 q2 q3 q4 q5 HRN
            go_wp2_with fail
            go_meet
            exact ⟨gA, gB, gC, rfl, HD⟩
          · have HQ2 := Lib.hid HQ1.out.alloc
            refine wpOp_step rfl fun K' hK' => ?_
            go_simp
            refine hK' _ _ ⟨.inr (.inr trivial), ?_⟩
            clear hK'
            generalize (wq1.alloc (.cells #[.slice none 0 0, .slice none 0 0] 26)) = wq2 at *
            generalize wq1.heap.size = gC at *
            refine anyY_only (i := 5) (by kernel_rfl) ?_
            refine wpOp_step rfl fun K' hK' => ?_
            go_simp
            refine (HRN.out wq2 HQ2.out.below).mono ?_
            rintro e wq3 ⟨gB, rfl, hg, hb, hW⟩
            have HQ3 := Lib.hid (HQ2.out.call hb hg hW)
            refine hK' _ _ ⟨.inr (.inr trivial), ?_⟩
            clear hK' hg hb hW
            refine anyY_pure (i := 6) (v := .agg #[.slice (some ⟨gA, 0, none⟩) nd nd, .slice (some ⟨gB, 0, none⟩) nf nf]) rfl rfl rfl (by kernel_rfl) (by kernel_rfl) (by kernel_rfl) (fun _ _ _ h => h) (Or.inl ⟨by rfl, fun wx _ => ?_⟩) (.inr trivial) ?_
            · go_simp
            obtain ⟨q1, q2, q3, q4, q5⟩ := HQ3.out.box
            have HD := Lib.hid HQ3.out.done
            refine anyY_only (i := 8) (by kernel_rfl) ?_
            refine wpOp_step rfl fun K' hK' => ?_
            go_simp
            refine hK' _ _ ⟨.inr (.inl rfl), anyY_done (by kernel_rfl) ?_ _⟩
            clear hK' q1 q2 q3 q4 q5 HRN
            go_wp2_with fail
            go_meet
            exact ⟨gA, gB, gC, rfl, HD⟩
        · refine wpOp_step rfl fun K' hK' => ?_
          go_simp
          refine (HRN.out WX HQ0.out.below).mono ?_
          rintro e wq1 ⟨gB, rfl, hg, hb, hW⟩
          have HQ1 := Lib.hid (HQ0.out.call hb hg hW)
          refine hK' _ _ ⟨.inr (.inr trivial), ?_⟩
          clear hK' hg hb hW
          refine anyY_2 (i := 2) (j := 7) (by kernel_rfl) ?_ ?_
          · obtain ⟨wq2, hmk, ho, hb, hl⟩ := run_make_raws (P := Try.prog) (t := 24) Try.underlying24 obj_info (by omega) nd (by omega) wq1
            have HQ2 := Lib.hid (HQ1.out.make hb ho hl)
            refine wpOp_step rfl fun K' hK' => ?_
            go_simp
            refine hK' _ _ ⟨.inr (.inr trivial), ?_⟩
            clear hK' hmk ho hb hl
            generalize wq1.heap.size = gA at *
            refine anyY_pure (i := 6) (v := .agg #[.slice (some ⟨gA, 0, none⟩) nd nd, .slice (some ⟨gB, 0, none⟩) nf nf]) rfl rfl rfl (by kernel_rfl) (by kernel_rfl) (by kernel_rfl) (fun _ _ _ h => h) (Or.inl ⟨by rfl, fun wx _ => ?_⟩) (.inr trivial) ?_
            · go_simp
            refine anyY_only (i := 7) (by kernel_rfl) ?_
            have HQ3 := Lib.hid HQ2.out.alloc
            refine wpOp_step rfl fun K' hK' => ?_
            go_simp
            refine hK' _ _ ⟨.inr (.inr trivial), ?_⟩
            clear hK'
            generalize (wq2.alloc (.cells #[.slice none 0 0, .slice none 0 0] 26)) = wq3 at *
            generalize wq2.heap.size = gC at *
            obtain ⟨q1, q2, q3, q4, q5⟩ := HQ3.out.box
            have HD := Lib.hid HQ3.out.done
            refine anyY_only (i := 8) (by kernel_rfl) ?_
            refine wpOp_step rfl fun K' hK' => ?_
            go_simp
            refine hK' _ _ ⟨.inr (.inl rfl), anyY_done (by kernel_rfl) ?_ _⟩
            clear hK' q1 q2 q3 q4 q5 HRN
            go_wp2_with fail
            go_meet
            exact ⟨gA, gB, gC, rfl, HD⟩
          · have HQ2 := Lib.hid HQ1.out.alloc
            refine wpOp_step rfl fun K' hK' => ?_
            go_simp
            refine hK' _ _ ⟨.inr (.inr trivial), ?_⟩
            clear hK'
            generalize (wq1.alloc (.cells #[.slice none 0 0, .slice none 0 0] 26)) = wq2 at *
            generalize wq1.heap.size = gC at *
            refine anyY_only (i := 2) (by kernel_rfl) ?_
            obtain ⟨wq3, hmk, ho, hb, hl⟩ := run_make_raws (P := Try.prog) (t := 24) Try.underlying24 obj_info (by omega) nd (by omega) wq2
            have HQ3 := Lib.hid (HQ2.out.make hb ho hl)
            refine wpOp_step rfl fun K' hK' => ?_
            go_simp
            refine hK' _ _ ⟨.inr (.inr trivial), ?_⟩
            clear hK' hmk ho hb hl
            generalize wq2.heap.size = gA at *
            refine anyY_pure (i := 6) (v := .agg #[.slice (some ⟨gA, 0, none⟩) nd nd, .slice (some ⟨gB, 0, none⟩) nf nf]) rfl rfl rfl (by kernel_rfl) (by kernel_rfl) (by kernel_rfl) (fun _ _ _ h => h) (Or.inl ⟨by rfl, fun wx _ => ?_⟩) (.inr trivial) ?_
            · go_simp
            obtain ⟨q1, q2, q3, q4, q5⟩ := HQ3.out.box
            have HD := Lib.hid HQ3.out.done
            refine anyY_only (i := 8) (by kernel_rfl) ?_
            refine wpOp_step rfl fun K' hK' => ?_
            go_simp
            refine hK' _ _ ⟨.inr (.inl rfl), anyY_done (by kernel_rfl) ?_ _⟩
            clear hK' q1 q2 q3 q4 q5 HRN
            go_wp2_with fail
            go_meet
            exact ⟨gA, gB, gC, rfl, HD⟩
        · have HQ1 := Lib.hid HQ0.out.alloc
          refine wpOp_step rfl fun K' hK' => ?_
          go_simp
          refine hK' _ _ ⟨.inr (.inr trivial), ?_⟩
          clear hK'
          generalize (WX.alloc (.cells #[.slice none 0 0, .slice none 0 0] 26)) = wq1 at *
          generalize WX.heap.size = gC at *
          refine anyY_2 (i := 2) (j := 5) (by kernel_rfl) ?_ ?_
          · obtain ⟨wq2, hmk, ho, hb, hl⟩ := run_make_raws (P := Try.prog) (t := 24) Try.underlying24 obj_info (by omega) nd (by omega) wq1
            have HQ2 := Lib.hid (HQ1.out.make hb ho hl)
            refine wpOp_step rfl fun K' hK' => ?_
            go_simp
            refine hK' _ _ ⟨.inr (.inr trivial), ?_⟩
            clear hK' hmk ho hb hl
            generalize wq1.heap.size = gA at *
            refine anyY_only (i := 5) (by kernel_rfl) ?_
            refine wpOp_step rfl fun K' hK' => ?_
            go_simp
            refine (HRN.out wq2 HQ2.out.below).mono ?_
            rintro e wq3 ⟨gB, rfl, hg, hb, hW⟩
            have HQ3 := Lib.hid (HQ2.out.call hb hg hW)
            refine hK' _ _ ⟨.inr (.inr trivial), ?_⟩
            clear hK' hg hb hW
            refine anyY_pure (i := 6) (v := .agg #[.slice (some ⟨gA, 0, none⟩) nd nd, .slice (some ⟨gB, 0, none⟩) nf nf]) rfl rfl rfl (by kernel_rfl) (by kernel_rfl) (by kernel_rfl) (fun _ _ _ h => h) (Or.inl ⟨by rfl, fun wx _ => ?_⟩) (.inr trivial) ?_
            · go_simp
            obtain ⟨q1, q2, q3, q4, q5⟩ := HQ3.out.box
            have HD := Lib.hid HQ3.out.done
            refine anyY_only (i := 8) (by kernel_rfl) ?_
            refine wpOp_step rfl fun K' hK' => ?_
            go_simp
            refine hK' _ _ ⟨.inr (.inl rfl), anyY_done (by kernel_rfl) ?_ _⟩
            clear hK' q1 q2 q3 q4 q5 HRN
            go_wp2_with fail
            go_meet
            exact ⟨gA, gB, gC, rfl, HD⟩
          · refine wpOp_step rfl fun K' hK' => ?_
            go_simp
            refine (HRN.out wq1 HQ1.out.below).mono ?_
            rintro e wq2 ⟨gB, rfl, hg, hb, hW⟩
            have HQ2 := Lib.hid (HQ1.out.call hb hg hW)
            refine hK' _ _ ⟨.inr (.inr trivial), ?_⟩
            clear hK' hg hb hW
            refine anyY_only (i := 2) (by kernel_rfl) ?_
            obtain ⟨wq3, hmk, ho, hb, hl⟩ := run_make_raws (P := Try.prog) (t := 24) Try.underlying24 obj_info (by omega) nd (by omega) wq2
            have HQ3 := Lib.hid (HQ2.out.make hb ho hl)
            refine wpOp_step rfl fun K' hK' => ?_
            go_simp
            refine hK' _ _ ⟨.inr (.inr trivial), ?_⟩
            clear hK' hmk ho hb hl
            generalize wq2.heap.size = gA at *
            refine anyY_pure (i := 6) (v := .agg #[.slice (some ⟨gA, 0, none⟩) nd nd, .slice (some ⟨gB, 0, none⟩) nf nf]) rfl rfl rfl (by kernel_rfl) (by kernel_rfl) (by kernel_rfl) (fun _ _ _ h => h) (Or.inl ⟨by rfl, fun wx _ => ?_⟩) (.inr trivial) ?_
            · go_simp
            obtain ⟨q1, q2, q3, q4, q5⟩ := HQ3.out.box
            have HD := Lib.hid HQ3.out.done
            refine anyY_only (i := 8) (by kernel_rfl) ?_
            refine wpOp_step rfl fun K' hK' => ?_
            go_simp
            refine hK' _ _ ⟨.inr (.inl rfl), anyY_done (by kernel_rfl) ?_ _⟩
            clear hK' q1 q2 q3 q4 q5 HRN
            go_wp2_with fail
            go_meet
            exact ⟨gA, gB, gC, rfl, HD⟩
      case rest =>
        obtain ⟨ga, gb, gc, rfl, h18⟩ := hcut
        have hw6 : Below w5.heap.size w5 wc := (below_drewN (Below.refl _ _) 1).trans h18.out.below
        have hs5 : w4.heap.size < w5.heap.size := HNM.out.lt
        have oa : w5.heap.size ≤ ga := h18.out.oa
        have ob : w5.heap.size ≤ gb := h18.out.ob
        have oc5 : w5.heap.size ≤ gc := h18.out.oc
        have H18 := Lib.hid h18.out
        have HB46 : Hid (Below w4.heap.size w4 wc) := Below.trans HB45.out (hw6.mono (Nat.le_of_lt hs5))
        have HI : Hid (F2I zs ord raws w4.heap.size ga nd wc 0 (List.replicate nd zeroRaw) wc) := ⟨H18.out.own, by simp, fun j hj => absurd hj (by omega), HNM.out.below hw6 hs5, TrF.refl⟩
        have hl6 := H18.out.la
        clear h18 hw6 HNM HB45 HRN hmm
        generalize wc = w6 at *
        obtain ⟨gn, hgn⟩ : ∃ g, w4.heap.size = g := ⟨_, rfl⟩
        have HGN := Lib.hid hgn
        rw [hgn] at HI hs5
        rw [hgn]
        clear hgn
        go_wp2_with fail
        go_loopw [72] (fun i wr => ∃ (k : Nat) (cur : List Raw), k ≤ m ∧ i = .int .i64 k ∧ Hid (F2I zs ord raws gn ga nd w6 k cur wr)) (fun i _ => m - (intOf i).toNat)
        case atStart => exact ⟨0, _, Nat.zero_le _, rfl, HI⟩
        case round =>
          obtain ⟨k, cur, hk, rfl, hI⟩ := hrel
          clear HI
          by_cases hlt : k < m
          · obtain ⟨hs, hs256⟩ := HS.out k hlt
            have hkb : k < (begins zs 0).length := by rw [HM.out]; exact hlt
            have hb4 : Below w4.heap.size w4 wr := HB46.out.trans (hI.out.fr.below (by rw [HGN.out]; omega) (by rw [HGN.out]; omega) (by rw [HGN.out]; omega))
            obtain ⟨b, off, rfl, _, q0, q1, q2, q3, q4⟩ := (HA2.out.below hb4 (Nat.le_refl _)).spot hlt
            rw [hs] at q0 q1 q2 q3 q4
            unfold spOf at q0 q1 q2 q3 q4
            simp only at q0 q1 q2 q3 q4
            have hba := (Below.refl _ wr).alloc (Nat.le_refl _) (.cells #[.int .i64 (st zs k), .int .i64 (vR (nth zs (st zs k))), .int .i64 (vB (nth zs (st zs k))), .int .i64 (vT (nth zs (st zs k))), .bool (vF (nth zs (st zs k)))] 80)
            have hX := hI.out.next hba
            have hb4' := hb4.trans (hba.mono hb4.size)
            have hsw : (Lit.int .i64 (st zs k : Int)).wf = true := wf_i64.2 (by omega)
            have hlk := (HMP.out.below hb4' HMP.out.lt).lookOk placesT (x := (st zs k : Int)) hsw
            rw [← HNL.out, plT_all] at hlk
            simp only at hlk
            have hkw : (Lit.int .i64 (k : Int)).wf = true := wf_i64.2 (by omega)
            have bX := Box.new wr 80 #[.int .i64 (st zs k), .int .i64 (vR (nth zs (st zs k))), .int .i64 (vB (nth zs (st zs k))), .int .i64 (vT (nth zs (st zs k))), .bool (vF (nth zs (st zs k)))]
            by_cases hin : (st zs k : Int) ∈ ord
            · rw [if_pos hin] at hlk
              obtain ⟨p, hp, hpl, _⟩ := plI_in hin
              have hpn : p < nd := by have := HNL.out; omega
              rw [hp] at hlk
              simp only [Option.getD_some, Option.isSome_some] at hlk
              obtain ⟨w8, hrun, hm8, hg8⟩ := hX.map.store placesT (x := (k : Int)) (y := (p : Int)) (by unfold maxLen; omega) hkw (wf_i64.2 (by omega))
              obtain ⟨r, hr⟩ : ∃ r, nthG raws k = r := ⟨_, rfl⟩
              have HN := Lib.hid (hX.store hin hkb (by rw [hp]; exact hm8) hg8 (by omega) hp hpn hr)
              obtain ⟨ho8, hf8⟩ := hX.note hg8 (by omega)
              have hx8 : Box w8 gc 26 #[.slice (some ⟨ga, 0, none⟩) nd nd, .slice (some ⟨gb, 0, none⟩) nf nf] := (hf8.block gc H18.out.box.lt (by omega) (Ne.symm H18.out.ac)).trans H18.out.box
              have g0 : w8.cell? ⟨gc, 0, none⟩ = some (.slice (some ⟨ga, 0, none⟩) nd nd) := hx8.cell 0
              obtain ⟨⟨d0, d1, d2, d3⟩, hfz⟩ := ho8.cells4 (j := p) (by rw [hI.out.len]; exact hpn)
              have z0 : w8.frozen? ⟨ga, p * 4, none⟩ = false := hfz 0 (by omega)
              have z1 := hfz 1 (by omega)
              have z2 := hfz 2 (by omega)
              have z3 := hfz 3 (by omega)
              have hb8 : Below w4.heap.size w4 w8 := HB46.out.trans (hf8.below (by rw [HGN.out]; omega) (by rw [HGN.out]; omega) (by rw [HGN.out]; omega))
              obtain ⟨bo, oo, rfl, _, y0, y1, y2, y3⟩ := (HRW.out.below hb8 (Nat.le_refl _)).raw hlt
              rw [hr] at y0 y1 y2 y3
              obtain ⟨T, ra, rn, rc, ba, bn, bc, fr'⟩ := r
              simp only at y0 y1 y2 y3 HN
              clear hs hb4 hb4' hX hI hm8 hg8 ho8 hf8 hx8 hfz hb8 hin hp hpl hr hkb hba
              generalize (nthG cur p).t = t0 at *
              generalize (nthG cur p).f = t1 at *
              generalize vR (nth zs (st zs k)) = R at *
              generalize vB (nth zs (st zs k)) = Bd at *
              generalize vT (nth zs (st zs k)) = T' at *
              generalize vF (nth zs (st zs k)) = Fr at *
              generalize st zs k = s at *
              go_wp2_with fail
              clear hrun hlk bX q0 q1 q2 q3 q4
              have HN := Lib.hid (HN.out.next (below_drewN (Below.refl _ _) 1))
              refine wp_region_Y 8 (fun w' => w' = w8.drewN 1) (by kernel_rfl) ?_
              change anyY _ _ _ _ _ _ _ _ _ (w8.drewN 1)
              have g0 : (w8.drewN 1).cell? ⟨gc, 0, none⟩ = some (.slice (some ⟨ga, 0, none⟩) nd nd) := g0
              have d0 : (w8.drewN 1).cell? ⟨ga, p * 4, none⟩ = some (.int .i64 t0) := d0
              have d1 : (w8.drewN 1).cell? ⟨ga, p * 4 + 1, none⟩ = some (.slice (nthG cur p).ra (nthG cur p).rn (nthG cur p).rc) := d1
              have d2 : (w8.drewN 1).cell? ⟨ga, p * 4 + 2, none⟩ = some (.slice (nthG cur p).ba (nthG cur p).bn (nthG cur p).bc) := d2
              have d3 : (w8.drewN 1).cell? ⟨ga, p * 4 + 3, none⟩ = some (.bool t1) := d3
              have z0 : (w8.drewN 1).frozen? ⟨ga, p * 4, none⟩ = false := z0
              have z1 : (w8.drewN 1).frozen? ⟨ga, p * 4 + 1, none⟩ = false := z1
              have z2 : (w8.drewN 1).frozen? ⟨ga, p * 4 + 2, none⟩ = false := z2
              have z3 : (w8.drewN 1).frozen? ⟨ga, p * 4 + 3, none⟩ = false := z3
              have y0 : (w8.drewN 1).cell? ⟨bo, oo + k * 4, none⟩ = some (.int .i64 T) := y0
              have y1 : (w8.drewN 1).cell? ⟨bo, oo + k * 4 + 1, none⟩ = some (.slice ra rn rc) := y1
              have y2 : (w8.drewN 1).cell? ⟨bo, oo + k * 4 + 2, none⟩ = some (.slice ba bn bc) := y2
              have y3 : (w8.drewN 1).cell? ⟨bo, oo + k * 4 + 3, none⟩ = some (.bool fr') := y3
              have HN : Hid (F2I zs ord raws gn ga nd w6 (k + 1) (cur.set p ⟨T, ra, rn, rc, ba, bn, bc, fr'⟩) (((((w8.drewN 1).setCell ⟨ga, p * 4, none⟩ (.int .i64 T)).setCell ⟨ga, p * 4 + 1, none⟩ (.slice ra rn rc)).setCell ⟨ga, p * 4 + 2, none⟩ (.slice ba bn bc)).setCell ⟨ga, p * 4 + 3, none⟩ (.bool fr'))) := HN.out
              generalize w8.drewN 1 = WX at *
              refine anyY_pure (i := 0) (v := .pointer (some ⟨gc, 0, none⟩)) rfl rfl rfl (by kernel_rfl) (by kernel_rfl) (by kernel_rfl) (fun _ _ _ h => h) (Or.inl ⟨by rfl, fun wx _ => ?_⟩) (.inr rfl) ?_
              · go_simp
              refine anyY_take (i := 1) (v := .slice (some ⟨ga, 0, none⟩) nd nd) rfl rfl (by kernel_rfl) rfl (by kernel_rfl) (by kernel_rfl) (by kernel_rfl) (by kernel_rfl) (fun _ _ _ h => h) (Or.inl ⟨by rfl, fun wx hS => ?_⟩) rfl ?_
              · subst hS
                go_simp
              refine anyY_pure (i := 2) (v := .int .i64 (p : Int)) rfl rfl rfl (by kernel_rfl) (by kernel_rfl) (by kernel_rfl) (fun _ _ _ h => h) (Or.inl ⟨by rfl, fun wx _ => ?_⟩) (.inr rfl) ?_
              · go_simp
              refine anyY_pure (i := 3) (v := .slice (some ⟨bo, oo, none⟩) m oc) rfl rfl rfl (by kernel_rfl) (by kernel_rfl) (by kernel_rfl) (fun _ _ _ h => h) (Or.inl ⟨by rfl, fun wx _ => ?_⟩) (.inr rfl) ?_
              · go_simp
              refine anyY_pure (i := 4) (v := .int .i64 (k : Int)) rfl rfl rfl (by kernel_rfl) (by kernel_rfl) (by kernel_rfl) (fun _ _ _ h => h) (Or.inl ⟨by rfl, fun wx _ => ?_⟩) (.inr rfl) ?_
              · go_simp
              refine anyY_pure (i := 5) (v := .pointer (some ⟨bo, oo + k * 4, none⟩)) rfl rfl rfl (by kernel_rfl) (by kernel_rfl) (by kernel_rfl) (fun _ _ _ h => h) (Or.inl ⟨by rfl, fun wx _ => ?_⟩) (.inr rfl) ?_
              · go_simp
              refine anyY_take (i := 6) (v := .agg #[.int .i64 T, .slice ra rn rc, .slice ba bn bc, .bool fr']) rfl rfl (by kernel_rfl) rfl (by kernel_rfl) (by kernel_rfl) (by kernel_rfl) (by kernel_rfl) (fun _ _ _ h => h) (Or.inl ⟨by rfl, fun wx hS => ?_⟩) rfl ?_
              · subst hS
                go_simp
              refine anyY_pure (i := 7) (v := .pointer (some ⟨ga, p * 4, none⟩)) rfl rfl rfl (by kernel_rfl) (by kernel_rfl) (by kernel_rfl) (fun _ _ _ h => h) (Or.inl ⟨by rfl, fun wx _ => ?_⟩) (.inr rfl) ?_
              · go_simp
              refine anyY_only (i := 8) (by kernel_rfl) ?_
              refine wpOp_step rfl fun K' hK' => ?_
              go_simp
              refine hK' _ _ ⟨.inr (.inl rfl), anyY_done (by kernel_rfl) ?_ _⟩
              clear hK' g0 d0 d1 d2 d3 z0 z1 z2 z3 y0 y1 y2 y3
              go_wp2
              go_roundw
              case rel => exact ⟨k + 1, _, by omega, by go_num, HN⟩
              case measure => simp [intOf]; omega
            · rw [if_neg hin] at hlk
              simp only [Option.getD_none, Option.isSome_none] at hlk
              have HN := Lib.hid (hX.skip hin)
              clear hs hb4 hb4' hX hI hin hkb hba
              generalize vR (nth zs (st zs k)) = R at *
              generalize vB (nth zs (st zs k)) = Bd at *
              generalize vT (nth zs (st zs k)) = T' at *
              generalize vF (nth zs (st zs k)) = Fr at *
              generalize st zs k = s at *
              go_wp2
              go_roundw
              case rel => exact ⟨k + 1, cur, by omega, by go_num, HN⟩
              case measure => simp [intOf]; omega
          · have HC : Hid (∀ i, i < nd → ∃ s : Nat, nth ord i = (s : Int) ∧ (s : Int) ∈ livesI zs ∧ ObV w4 (w.heap.size + 1) w4.heap.size (nthG cur i) (obOf zs s)) := fun i hi => by
              have hil : i < ord.length := by rw [HNL.out]; exact hi
              have hx := nth_mem (l := ord) hil
              obtain ⟨j, hj, hje, _⟩ := mem_lives.1 (HLV.out _ hx)
              rw [HM.out] at hj
              refine ⟨st zs j, hje.symm, by rw [hje]; exact HLV.out _ hx, ?_⟩
              have h1 := hI.out.put j (by omega) (by rw [hje]; exact hx)
              rw [hje, plI_at HND.out hil, Int.toNat_natCast] at h1
              rw [h1]
              exact HOV.out j hj
            obtain rfl : k = m := by omega
            have HB7 : Hid (Below w4.heap.size w4 wr) := HB46.out.trans (hI.out.fr.below (by rw [HGN.out]; omega) (by rw [HGN.out]; omega) (by rw [HGN.out]; omega))
            have HX7 : Hid (Box wr gc 26 #[.slice (some ⟨ga, 0, none⟩) nd nd, .slice (some ⟨gb, 0, none⟩) nf nf]) := (hI.out.fr.block gc H18.out.box.lt (by omega) (Ne.symm H18.out.ac)).trans H18.out.box
            have HG7 : Hid (Whole .i64 3 wr gb (formF zs fr)) := ⟨(hI.out.fr.block gb H18.out.row.lt (by omega) (Ne.symm H18.out.ab)).trans H18.out.row.1, H18.out.row.2⟩
            have HN7 : Hid (MapF Try.prog .i64 .i64 3 3 wr gn (k + 1) (nmT zs ord k)) := hI.out.map
            have hl7 : ga < wr.heap.size := Nat.lt_of_lt_of_le hl6 hI.out.fr.size
            have HJ : Hid (F3I zs ord ga nd (w.heap.size + 1) wr cur 0 cur wr) := ⟨hI.out.own, hI.out.len, fun j hj => absurd hj (by omega), fun _ _ => rfl, TrF.refl⟩
            have hac : ga ≠ gc := H18.out.ac
            have hab : ga ≠ gb := H18.out.ab
            have hr4 := HX5.out.lt
            clear hI HB46 HRW HOV HA1 HA2 HMP H18 HS HLV hlt hk
            generalize k = m at *
            clear hl6
            generalize wr = w7 at *
            have g0 : w7.cell? ⟨gc, 0, none⟩ = some (.slice (some ⟨ga, 0, none⟩) nd nd) := HX7.out.cell 0
            go_wp2_with fail
            clear g0
            go_loopw [100] (fun i wr => ∃ (k : Nat) (cur' : List Raw), k ≤ nd ∧ i = .int .i64 k ∧ Hid (F3I zs ord ga nd (w.heap.size + 1) w7 cur k cur' wr)) (fun i _ => nd - (intOf i).toNat)
            case atStart => exact ⟨0, cur, Nat.zero_le _, rfl, HJ⟩
            case round =>
              obtain ⟨i, cur', hi, rfl, hI⟩ := hrel
              clear HJ
              by_cases hlt : i < nd
              · obtain ⟨s, hsx, hsl, hV0⟩ := HC.out i hlt
                have hb4 : Below w4.heap.size w4 wr := HB7.out.trans (hI.out.fr.below (by rw [HGN.out]; omega) (by rw [HGN.out]; omega) (by rw [HGN.out]; omega))
                obtain ⟨⟨e0, e1, e2, e3⟩, _⟩ := hI.out.own.cells4 (j := i) (by rw [hI.out.len]; exact hlt)
                rw [hI.out.old i (Nat.le_refl _)] at e0 e1 e2 e3
                obtain ⟨r, hr⟩ : ∃ r, nthG cur i = r := ⟨_, rfl⟩
                rw [hr] at hV0 e0 e1 e2 e3
                have HR := Lib.hid hr
                have HSX := Lib.hid hsx
                have HSL := Lib.hid hsl
                have HV0 := Lib.hid hV0
                have HB4 := Lib.hid hb4
                have hx9 : Box wr gc 26 #[.slice (some ⟨ga, 0, none⟩) nd nd, .slice (some ⟨gb, 0, none⟩) nf nf] := (hI.out.fr.block gc HX7.out.lt (Ne.symm hac) (Ne.symm hac)).trans HX7.out
                have hrn : r.rn ≤ 256 := by
                  have h1 := hV0.refs.1
                  have h2 := arena_len HAO.out
                  unfold obOf refWords at h1
                  simp only [List.length_map, List.length_take, List.length_drop] at h1
                  omega
                have hba := (Below.refl _ wr).alloc (Nat.le_refl _) (.cells #[.int .i64 r.t, .slice r.ra r.rn r.rc, .slice r.ba r.bn r.bc, .bool r.f] 41)
                have bX := Box.new wr 41 #[.int .i64 r.t, .slice r.ra r.rn r.rc, .slice r.ba r.bn r.bc, .bool r.f]
                have HIX := Lib.hid (hI.out.next hba)
                have HMX : Hid (MapF Try.prog .i64 .i64 3 3 (wr.alloc (.cells #[.int .i64 r.t, .slice r.ra r.rn r.rc, .slice r.ba r.bn r.bc, .bool r.f] 41)) gn (m + 1) (nmT zs ord m)) := (HN7.out.keep (hI.out.fr.block gn HN7.out.lt (by omega) (by omega))).alloc _
                have HBX := Lib.hid hba
                have hg9 : gc < wr.heap.size := hx9.lt
                have hga9 : ga < wr.heap.size := Nat.lt_of_lt_of_le hl7 hI.out.fr.size
                have g0 : (wr.alloc (.cells #[.int .i64 r.t, .slice r.ra r.rn r.rc, .slice r.ba r.bn r.bc, .bool r.f] 41)).cell? ⟨gc, 0, none⟩ = some (.slice (some ⟨ga, 0, none⟩) nd nd) := (hba.cell (p := ⟨gc, 0, none⟩) hg9).trans (hx9.cell 0)
                have g1 : (wr.alloc (.cells #[.int .i64 r.t, .slice r.ra r.rn r.rc, .slice r.ba r.bn r.bc, .bool r.f] 41)).cell? ⟨wr.heap.size, 1, none⟩ = some (.slice r.ra r.rn r.rc) := bX.cell 1
                have HBXB := Lib.hid bX
                obtain ⟨T, ra, rn, rc, ba, bn, bc, f⟩ := r
                simp only at e0 e1 e2 e3 hrn HIX HMX HBX g0 g1 HBXB
                clear hsx hsl hV0 hb4 hr hba hI hx9 bX
                have hp0 := g0
                have hp1 := g1
                go_wp2_with fail
                clear e0 e1 e2 e3
                generalize (wr.alloc (.cells #[.int .i64 T, .slice ra rn rc, .slice ba bn bc, .bool f] 41)) = W8 at *
                refine wp_region_Y 9 (fun w' => w'.cell? ⟨gc, 0, none⟩ = some (.slice (some ⟨ga, 0, none⟩) nd nd) ∧ w'.cell? ⟨wr.heap.size, 1, none⟩ = some (.slice ra rn rc)) (by kernel_rfl) ?_
                change anyY _ _ _ _ _ _ _ _ _ (W8.drewN 1)
                have HIX := Lib.hid (HIX.out.next (below_drewN (Below.refl _ _) 1))
                have HMX := Lib.hid (HMX.out.drewN 1)
                have HBX : Hid (Below wr.heap.size wr (W8.drewN 1)) := HBX.out.trans ((below_drewN (Below.refl _ _) 1).mono HBX.out.size)
                have HBXB : Hid (Box (W8.drewN 1) wr.heap.size 41 #[.int .i64 T, .slice ra rn rc, .slice ba bn bc, .bool f]) := HBXB.out
                have hS0 : (W8.drewN 1).cell? ⟨gc, 0, none⟩ = some (.slice (some ⟨ga, 0, none⟩) nd nd) ∧ (W8.drewN 1).cell? ⟨wr.heap.size, 1, none⟩ = some (.slice ra rn rc) := ⟨g0, g1⟩
                clear g0 g1 hp0 hp1
                generalize W8.drewN 1 = WX at *
                refine anyY_pure (i := 0) (v := .pointer (some ⟨gc, 0, none⟩)) rfl rfl rfl (by kernel_rfl) (by kernel_rfl) (by kernel_rfl) (fun _ _ _ h => h) (Or.inl ⟨by rfl, fun wx _ => ?_⟩) (.inr hS0) ?_
                · go_simp
                refine anyY_take (i := 1) (v := .slice (some ⟨ga, 0, none⟩) nd nd) rfl rfl (by kernel_rfl) rfl (by kernel_rfl) (by kernel_rfl) (by kernel_rfl) (by kernel_rfl) (fun _ _ _ h => h) (Or.inl ⟨by rfl, fun wx hS => ?_⟩) hS0 ?_
                · obtain ⟨p1, p2⟩ := hS
                  go_simp
                refine anyY_pure (i := 2) (v := .int .i64 (i : Int)) rfl rfl rfl (by kernel_rfl) (by kernel_rfl) (by kernel_rfl) (fun _ _ _ h => h) (Or.inl ⟨by rfl, fun wx _ => ?_⟩) (.inr hS0) ?_
                · go_simp
                refine anyY_pure (i := 3) (v := .pointer (some ⟨wr.heap.size, 1, none⟩)) rfl rfl rfl (by kernel_rfl) (by kernel_rfl) (by kernel_rfl) (fun _ _ _ h => h) (Or.inl ⟨by rfl, fun wx _ => ?_⟩) (.inr hS0) ?_
                · go_simp
                refine anyY_take (i := 4) (v := .slice ra rn rc) rfl rfl (by kernel_rfl) rfl (by kernel_rfl) (by kernel_rfl) (by kernel_rfl) (by kernel_rfl) (fun _ _ _ h => h) (Or.inl ⟨by rfl, fun wx hS => ?_⟩) hS0 ?_
                · obtain ⟨p1, p2⟩ := hS
                  go_simp
                refine anyY_pure (i := 5) (v := .map (some gn)) rfl rfl rfl (by kernel_rfl) (by kernel_rfl) (by kernel_rfl) (fun _ _ _ h => h) (Or.inl ⟨by rfl, fun wx _ => ?_⟩) (.inr hS0) ?_
                · go_simp
                have hvr : Arr .i64 WX WX.heap.size ra rn (refsX zs s) := ((HV0.out.refs.below HB4.out (Nat.le_refl _)).more HB4.out.size).later HBX.out
                have HRL : Hid (rn = (refsX zs s).length) := hvr.1.symm
                have HCR := Lib.hid (renamed_any ra rn rc gn (m + 1) (refsX zs s) (nmT zs ord m) WX (by omega) hvr HMX.out)
                have hcl : ∀ y ∈ nxOf zs s, y < 0 ∨ y ∈ ord := by
                  have h1 := camL_closed HWF.out HZ0.out i (by rw [HOR.out, HNL.out]; exact hlt)
                  rw [HOR.out, HSX.out] at h1
                  exact h1
                have hneg : (-1 : Int) ∉ ord := fun h1 => by
                  have := HC.out
                  obtain ⟨q, hq, e⟩ := List.getElem_of_mem h1
                  obtain ⟨s', hs', _⟩ := this q (by rw [← HNL.out]; exact hq)
                  rw [nth_get _ _ hq, e] at hs'
                  omega
                have hnew := refs_new HWF.out HAO.out HSL.out hcl hneg
                rw [HM.out] at hnew
                rw [hnew] at HCR
                clear hvr hcl hneg hnew
                refine anyY_only (i := 6) (by kernel_rfl) ?_
                refine wpOp_step rfl fun K' hK' => ?_
                go_simp
                refine HCR.out.mono ?_
                rintro e w10 ⟨g9, rfl, hg9', b10, hW10⟩
                have hB10 := HBX.out.trans (b10.mono HBX.out.size)
                have hX10 := HBXB.out.below b10 HBXB.out.lt
                have hS1 : w10.cell? ⟨gc, 0, none⟩ = some (.slice (some ⟨ga, 0, none⟩) nd nd) ∧ w10.cell? ⟨wr.heap.size, 1, none⟩ = some (.slice ra rn rc) := ⟨(b10.cell (p := ⟨gc, 0, none⟩) (Nat.lt_of_lt_of_le hg9 HBX.out.size)).trans hS0.1, hX10.cell 1⟩
                have hI10 := HIX.out.next b10
                obtain ⟨⟨d0, d1, d2, d3⟩, hfz⟩ := hI10.own.cells4 (j := i) (by rw [hI10.len]; exact hlt)
                rw [hI10.old i (Nat.le_refl _), HR.out] at d1
                simp only at d1
                have z1 := hfz 1 (by omega)
                have hHB : Below w4.heap.size w4 w10 := HB4.out.trans (hB10.mono HB4.out.size)
                have hV : ObV w10 (w.heap.size + 1) w10.heap.size ⟨T, some ⟨g9, 0, none⟩, rn, rn, ba, bn, bc, f⟩ (obC zs ord (nth ord i)) := by
                  have h1 := HV0.out
                  obtain ⟨q, hq, hqf, hqe⟩ := lives_mem.1 HSL.out
                  obtain rfl : s = q := by omega
                  have hga := hW10.arr hW10.lt
                  rw [List.length_map, show (named zs s).length = rn by rw [HRL.out]; unfold named refsX; rw [List.length_map, List.length_map]] at hga
                  rw [HSX.out]
                  unfold obC
                  rw [Int.toNat_natCast]
                  have hsz1 := HBX.out.size
                  have hsz2 := HB4.out.size
                  refine ⟨h1.tag, h1.free.trans hqf, Nat.le_refl _, h1.bcap, hga, fun b o _ e => ?_, (h1.body.below hHB (Nat.le_refl _)).more hHB.size, h1.bhigh⟩
                  injection e with e
                  injection e with e
                  omega
                have hO1 : Off (some ga) (some ⟨g9, 0, none⟩) rn := fun b o _ e e2 => by
                  injection e with e
                  injection e with e
                  injection e2 with e2
                  have hsz1 := HBX.out.size
                  omega
                have hO2 : Off (some ga) ba bn := HV0.out.body.off (fun b e => by injection e with e; rw [HGN.out]; omega)
                have HN := Lib.hid (hI10.store hlt HR.out hV hO1 hO2)
                refine hK' _ _ ⟨.inr (.inr hS1), ?_⟩
                clear hK' hg9' b10 hW10 hB10 hX10 hI10 d0 d2 d3 hfz hHB hV hO1 hO2 HCR HIX HMX HBXB HBX hS0
                refine anyY_pure (i := 7) (v := .pointer (some ⟨ga, i * 4, none⟩)) rfl rfl rfl (by kernel_rfl) (by kernel_rfl) (by kernel_rfl) (fun _ _ _ h => h) (Or.inl ⟨by rfl, fun wx _ => ?_⟩) (.inr hS1) ?_
                · go_simp
                refine anyY_pure (i := 8) (v := .pointer (some ⟨ga, i * 4 + 1, none⟩)) rfl rfl rfl (by kernel_rfl) (by kernel_rfl) (by kernel_rfl) (fun _ _ _ h => h) (Or.inl ⟨by rfl, fun wx _ => ?_⟩) (.inr hS1) ?_
                · go_simp
                refine anyY_only (i := 9) (by kernel_rfl) ?_
                refine wpOp_step rfl fun K' hK' => ?_
                go_simp
                refine hK' _ _ ⟨.inr (.inl rfl), anyY_done (by kernel_rfl) ?_ _⟩
                clear hK' hS1 d1 z1
                go_wp2
                go_roundw
                case rel => exact ⟨i + 1, _, by omega, by go_num, HN⟩
                case measure => simp [intOf]; omega
              · obtain rfl : i = nd := by omega
                have hgn4 : w4.heap.size = gn := HGN.out
                have hx9 : Box wr gc 26 #[.slice (some ⟨ga, 0, none⟩) i i, .slice (some ⟨gb, 0, none⟩) nf nf] := (hI.out.fr.block gc HX7.out.lt (Ne.symm hac) (Ne.symm hac)).trans HX7.out
                have hb4 : Below w4.heap.size w4 wr := HB7.out.trans (hI.out.fr.below (by rw [HGN.out]; omega) (by rw [HGN.out]; omega) (by rw [HGN.out]; omega))
                have hR := HX5.out.below hb4 HX5.out.lt
                have hW9 : Whole .i64 3 wr gb (formF zs fr) := ⟨(hI.out.fr.block gb HG7.out.lt (Ne.symm hab) (Ne.symm hab)).trans HG7.out.1, HG7.out.2⟩
                have g0 : wr.cell? ⟨gc, 0, none⟩ = some (.slice (some ⟨ga, 0, none⟩) i i) := hx9.cell 0
                have g1 : wr.cell? ⟨gc, 1, none⟩ = some (.slice (some ⟨gb, 0, none⟩) nf nf) := hx9.cell 1
                have s0 : wr.frozen? ⟨w.heap.size, 0, none⟩ = false := hR.soft 0
                have s1 : wr.frozen? ⟨w.heap.size, 1, none⟩ = false := hR.soft 1
                have r0 : wr.cell? ⟨w.heap.size, 0, none⟩ = some (.slice none 0 0) := hR.cell 0
                have r1 : wr.cell? ⟨w.heap.size, 1, none⟩ = some (.slice none 0 0) := hR.cell 1
                have m0 : gc ≠ w.heap.size := by omega
                have m1 : ¬ w.heap.size = gc := by omega
                have HR9 := Lib.hid hR
                have HB9 := Lib.hid (bthen HB5.out hb4)
                have HI9 := Lib.hid hI.out
                have HW9 := Lib.hid hW9
                clear hx9 hb4 hR hW9 hI
                go_wp2
                obtain ⟨z1, z2, z3, z4⟩ := set2 HB9.out HR9.out (Nat.le_refl _) (.slice (some ⟨ga, 0, none⟩) i i) (.slice (some ⟨gb, 0, none⟩) nf nf)
                have hF : FormIn ((wr.setCell ⟨w.heap.size, 0, none⟩ (.slice (some ⟨ga, 0, none⟩) i i)).setCell ⟨w.heap.size, 1, none⟩ (.slice (some ⟨gb, 0, none⟩) nf nf)) (some ⟨ga, 0, none⟩) i i (some ⟨gb, 0, none⟩) nf nf cur' (formO zs fr) (formF zs fr) := by
                  have ho := HI9.out.own.keepAt (z4 ga (by omega))
                  obtain ⟨A9, c9, hv9, _, hA9⟩ := ho.arr rawC_len
                  injection hv9 with e1 e2 e3
                  rw [← e1, HI9.out.len] at hA9
                  have hw : Whole .i64 3 ((wr.setCell ⟨w.heap.size, 0, none⟩ (.slice (some ⟨ga, 0, none⟩) i i)).setCell ⟨w.heap.size, 1, none⟩ (.slice (some ⟨gb, 0, none⟩) nf nf)) gb (formF zs fr) := ⟨(z4 gb (by omega)).trans HW9.out.1, HW9.out.2⟩
                  have hwa := hw.arr hw.lt
                  rw [show (formF zs fr).length = nf by unfold formF; rw [List.length_map]; exact HF.out.1] at hwa
                  have hob : ∀ j, j < i → ObV ((wr.setCell ⟨w.heap.size, 0, none⟩ (.slice (some ⟨ga, 0, none⟩) i i)).setCell ⟨w.heap.size, 1, none⟩ (.slice (some ⟨gb, 0, none⟩) nf nf)) (w.heap.size + 1) ((wr.setCell ⟨w.heap.size, 0, none⟩ (.slice (some ⟨ga, 0, none⟩) i i)).setCell ⟨w.heap.size, 1, none⟩ (.slice (some ⟨gb, 0, none⟩) nf nf)).heap.size (nthG cur' j) (obC zs ord (nth ord j)) := fun j hj => by
                    rw [z3]
                    exact ((HI9.out.obs j hj).1.setOther (by omega) _ _).setOther (by omega) _ _
                  refine ⟨Nat.le_refl _, Nat.le_refl _, by omega, HNF.out, ⟨?_, hA9, fun j hj => ?_⟩, fun j hj => (hob j hj).lens (arena_len HAO.out), hwa⟩
                  · unfold formO; rw [obsC_len, HOR.out]; exact HNL.out
                  · unfold formO
                    rw [HOR.out, obsC_nth (by rw [HNL.out]; exact hj)]
                    exact (hob j hj).less (Nat.zero_le _)
                generalize ((wr.setCell ⟨w.heap.size, 0, none⟩ (.slice (some ⟨ga, 0, none⟩) i i)).setCell ⟨w.heap.size, 1, none⟩ (.slice (some ⟨gb, 0, none⟩) nf nf)) = W5 at *
                have x0 : W5.cell? ⟨w.heap.size, 0, none⟩ = some (.slice (some ⟨ga, 0, none⟩) i i) := z2.cell 0
                have x1 : W5.cell? ⟨w.heap.size, 1, none⟩ = some (.slice (some ⟨gb, 0, none⟩) nf nf) := z2.cell 1
                refine bodyPost_ret (v := .tuple #[.agg #[.slice (some ⟨ga, 0, none⟩) i i, .slice (some ⟨gb, 0, none⟩) nf nf], .int .i64 0]) (by simp [results, Try.results10, go_sem, x0, x1]) rfl ⟨some ⟨ga, 0, none⟩, i, i, some ⟨gb, 0, none⟩, nf, nf, cur', by rw [HZ0.out], z1, ?_⟩
                rw [sfO_ok HZ0.out, sfF_ok HZ0.out]
                exact hF

theorem form_any : FormC := by
  intro A F n c nf cf zs fr w h
  by_cases h0 : fromE zs fr = 0
  · exact sameForm_good A F n c nf cf zs fr w h h0
  · exact sameForm_bad A F n c nf cf zs fr w h h0
end Go.Proofs.Ytjefbekdjgmmbaa
