/-
  Contracts of package slide: reference, references, put, Slide.
-/
import Derived.Test.YtjefbekdjgmmbaaSlideN
import Derived.Test.YtjefbekdjgmmbaaPlanD
import Derived.StillTailTactics
namespace Go.Proofs.Ytjefbekdjgmmbaa
open Go.RowKit

/-- The map of references' words when the first 'i' are in it. -/
def refTo (zs ks ps : List Int) : Nat → Int → Option Int
  | 0 => put (fun _ => none) 0 0
  | i + 1 => put (refTo zs ks ps i) (nth ks i + 1) (toN zs ks ps i + 1)
def refF (zs ks ps : List Int) : Int → Option Int := refTo zs ks ps ks.length
section
variable {zs ks ps : List Int}
theorem refTo_none {v : Int} (h0 : v ≠ 0) (hn : v - 1 ∉ ks) : ∀ i, i ≤ ks.length → refTo zs ks ps i v = none
  | 0, _ => put_other _ h0
  | i + 1, hi => by
    show put _ _ _ _ = _
    rw [put_other _ (fun e => hn (by rw [show v - 1 = nth ks i by omega]; exact nth_mem (by omega)))]
    exact refTo_none h0 hn i (by omega)
theorem PlanOk.refTo_zero (h : PlanOk zs ks ps) : ∀ i, i ≤ ks.length → refTo zs ks ps i 0 = some 0
  | 0, _ => put_same _ _ _
  | i + 1, hi => by
    have := (live_lg (h.live (i := i) (by omega))).1
    show put _ _ _ _ = _
    rw [put_other _ (by omega)]
    exact PlanOk.refTo_zero h i (by omega)
theorem PlanOk.refTo_in (h : PlanOk zs ks ps) : ∀ i, i ≤ ks.length → ∀ j, j < i → refTo zs ks ps i (nth ks j + 1) = some (toN zs ks ps j + 1)
  | 0, _, j, hj => absurd hj (by omega)
  | i + 1, hi, j, hj => by
    show put _ _ _ _ = _
    by_cases e : j = i
    · subst e; exact put_same _ _ _
    · have := h.rise (i := j) (j := i) (by omega) (by omega)
      rw [put_other _ (by omega)]
      exact PlanOk.refTo_in h i (by omega) j (by omega)
theorem PlanOk.refF_some (h : PlanOk zs ks ps) {v : Int} (hv : v = 0 ∨ v - 1 ∈ ks) : refF zs ks ps v = some (trW zs ks ps v) := by
  by_cases h0 : v = 0
  · rw [h0, trW_zero]; exact h.refTo_zero _ (Nat.le_refl _)
  · obtain ⟨q1, q2⟩ := plN_in (hv.resolve_left h0)
    have := h.refTo_in _ (Nat.le_refl _) _ q1
    rw [q2, show v - 1 + 1 = v by omega] at this
    unfold trW
    rw [if_neg h0]
    exact this
theorem refF_none {v : Int} (h0 : v ≠ 0) (hn : v - 1 ∉ ks) : refF zs ks ps v = none := refTo_none h0 hn _ (Nat.le_refl _)
end

/-- The words of an object of 'L' words when its first 'i' references are moved; these words laid at 't'. -/
def objO (f : Int → Option Int) (ys : List Int) (i d : Nat) : Int := if 1 ≤ d ∧ d ≤ i then (f (nth ys d)).getD 0 else nth ys d
def putO (us ys : List Int) (f : Int → Option Int) (t L i : Nat) : List Int := splice us t ((List.range L).map (objO f ys i))
section
variable {us ys : List Int} {f : Int → Option Int} {t L i : Nat}
theorem objO_len : ((List.range L).map (objO f ys i)).length = L := by simp
theorem objO_nth {d : Nat} (h : d < L) : nth ((List.range L).map (objO f ys i)) d = objO f ys i d := by
  rw [nth_get _ _ (by simpa using h)]; simp
theorem putO_len (h : t + L ≤ us.length) : (putO us ys f t L i).length = us.length := by
  unfold putO; exact length_splice _ _ _ (by rw [objO_len]; exact h)
theorem putO_in {k : Nat} (h : t + L ≤ us.length) (h1 : t ≤ k) (h2 : k < t + L) : nth (putO us ys f t L i) k = objO f ys i (k - t) := by
  unfold putO
  rw [nth_splice_in _ _ _ _ h1 (by rw [objO_len]; exact h2) (by omega), objO_nth (by omega)]
theorem putO_out {k : Nat} (h : t + L ≤ us.length) (h1 : ¬ (t ≤ k ∧ k < t + L)) : nth (putO us ys f t L i) k = nth us k := by
  unfold putO
  rw [nth_splice_out _ _ _ _ (by rw [objO_len]; exact h1) (by rw [objO_len]; exact h)]
theorem putO_zero (h : L ≤ ys.length) : putO us ys f t L 0 = splice us t (ys.take L) := by
  unfold putO
  congr 1
  refine list_ext (by rw [objO_len, List.length_take]; omega) fun k => ?_
  by_cases hk : k < L
  · rw [objO_nth hk]
    unfold objO
    rw [if_neg (by omega)]
    simp [nth, hk]
  · rw [nth_out (by rw [objO_len]; omega), nth_out (by rw [List.length_take]; omega)]
theorem putO_set (h : t + L ≤ us.length) (hi : i + 1 < L) : (putO us ys f t L i).set (t + (i + 1)) ((f (nth ys (i + 1))).getD 0) = putO us ys f t L (i + 1) := by
  refine list_ext (by rw [List.length_set, putO_len h, putO_len h]) fun k => ?_
  rw [nth_set _ (by rw [putO_len h]; omega)]
  by_cases hk : t ≤ k ∧ k < t + L
  · rw [putO_in h hk.1 hk.2, putO_in h hk.1 hk.2]
    unfold objO
    by_cases e : k = t + (i + 1)
    · subst e
      rw [if_pos rfl, if_pos (by omega), show t + (i + 1) - t = i + 1 by omega]
    · rw [if_neg e]
      by_cases hc : 1 ≤ k - t ∧ k - t ≤ i
      · rw [if_pos hc, if_pos (by omega)]
      · rw [if_neg hc, if_neg (by omega)]
  · rw [if_neg (by omega), putO_out h hk, putO_out h hk]
end
/-- An object of the arena, laid. -/
theorem PlanOk.put_laid {zs ks ps : List Int} {i L R : Nat} (h : PlanOk zs ks ps) (hi : i < ks.length) (hL : longN zs (kn ks i) = L) (hR : (vR (nth zs (kn ks i))).toNat = R) (hsome : ∀ d, 1 ≤ d → d ≤ R → (refF zs ks ps (nth (zs.drop (kn ks i)) d)).isSome = true) :
    putO (slidAt zs ks ps i 0) (zs.drop (kn ks i)) (refF zs ks ps) (tn zs ks ps i) L R = slidAt zs ks ps (i + 1) 0 := by
  subst hL hR
  obtain ⟨a1, a2, a3, a4, a5, a6, a7, a8⟩ := h.nat hi
  have hn : ∀ d, nth (zs.drop (kn ks i)) d = nth zs (kn ks i + d) := fun d => by unfold nth; simp [List.getD, List.getElem?_drop]
  have hf : tn zs ks ps i + longN zs (kn ks i) ≤ (slidAt zs ks ps i 0).length := by rw [slidAt_len]; exact a6
  rw [← h.laid hi]
  refine list_ext (by rw [putO_len hf, slidAt_len, slidAt_len]) fun k => ?_
  by_cases hk : tn zs ks ps i ≤ k ∧ k < tn zs ks ps i + longN zs (kn ks i)
  · rw [putO_in hf hk.1 hk.2, slidAt_nth (by omega), wAt_some (h.owner_at hi hk.1 hk.2), if_pos (.inr ⟨rfl, hk.2⟩)]
    unfold objO objW
    rw [hn]
    by_cases hc : 1 ≤ k - tn zs ks ps i ∧ k - tn zs ks ps i ≤ (vR (nth zs (kn ks i))).toNat
    · rw [if_pos hc, if_pos hc]
      have hs := hsome _ hc.1 hc.2
      rw [hn] at hs
      by_cases hv : nth zs (kn ks i + (k - tn zs ks ps i)) = 0 ∨ nth zs (kn ks i + (k - tn zs ks ps i)) - 1 ∈ ks
      · rw [h.refF_some hv]; rfl
      · rw [refF_none (fun e => hv (.inl e)) (fun e => hv (.inr e))] at hs
        cases hs
    · rw [if_neg hc, if_neg hc]
  · rw [putO_out hf hk]
    by_cases hkl : k < zs.length
    · rw [slidAt_nth hkl, slidAt_nth hkl]
      cases ho : owner zs ks ps k with
      | none => rw [wAt_none ho, wAt_none ho]
      | some j =>
        rw [wAt_some ho, wAt_some ho]
        by_cases hc : j < i
        · rw [if_pos (.inl hc), if_pos (.inl hc)]
        · rw [if_neg, if_neg]
          · rintro (hc2 | ⟨rfl, hc2⟩)
            · exact hc hc2
            · obtain ⟨_, h1, _⟩ := h.owner_in ho
              exact hk ⟨h1, hc2⟩
          · rintro (hc2 | ⟨rfl, hc2⟩)
            · exact hc hc2
            · obtain ⟨_, h1, _⟩ := h.owner_in ho
              omega
    · rw [nth_out (by rw [slidAt_len]; omega), nth_out (by rw [slidAt_len]; omega)]

theorem wrap_word {t : Nat} (h : t ≤ 256) : ∃ V : Int, (t : Int) + 1 = V ∧ IntKind.u64.wrap (t : Int) = (t : Int) ∧ IntKind.u64.wrap V = V ∧ (Lit.int .u64 V).wf = true :=
  ⟨(t : Int) + 1, rfl, IntWalk.u64_in _ (by omega), IntWalk.u64_in _ (by omega), wf_u64.2 (by omega)⟩
theorem slideRef_any (t : Nat) (w : World) (h : t ≤ 256) : Calls Try.prog 107 #[.int .i64 t] w fun e w' => e = .returned (.int .u64 ((t : Int) + 1)) ∧ w = w' := by
  obtain ⟨V, hV, e1, e2, _⟩ := wrap_word h
  have HV := Lib.hid hV
  have e3 : IntKind.u64.wrap ((t : Int) + 1) = V := by rw [hV]; exact e2
  clear hV
  go_enter Try.func107, Try.ntmps107
  go_wp2
  go_ret
  exact ⟨by rw [HV.out]; rfl, rfl⟩
theorem wordT : MapT Try.prog .u64 .u64 138 47 47 := ⟨Try.underlying138, Try.underlying47, Try.underlying47, fun _ => by kernel_rfl⟩
/-- What holds while references goes over what is kept. -/
structure RfI (zs ks ps : List Int) (w : World) (gm k : Nat) (wr : World) : Prop where
  map : MapF Try.prog .u64 .u64 47 47 wr gm (k + 1) (refTo zs ks ps k)
  below : Below w.heap.size w wr
/-- What references answers. -/
def RefsP (zs ks ps : List Int) (w : World) (e : Ending) (w' : World) : Prop := ∃ gm, e = .returned (.map (some gm)) ∧ w.heap.size ≤ gm ∧ Below w.heap.size w w' ∧ MapF Try.prog .u64 .u64 47 47 w' gm 300 (refF zs ks ps)

set_option maxRecDepth 8000 in
set_option maxHeartbeats 1000000 in
theorem slideRefs_any (K T : Option Addr) (n ck ct : Nat) (zs ks ps : List Int) (w : World) (hk : Arr .i64 w w.heap.size K n ks) (ht : Arr .i64 w w.heap.size T n (toL zs ks ps)) (h : PlanOk zs ks ps) :
    Calls Try.prog 81 #[.slice K n ck, .slice T n ct] w (RefsP zs ks ps w) := by
  have HK := Lib.hid hk
  have HT := Lib.hid ht
  have HOK := Lib.hid h
  have hkl := hk.1
  have h256 := h.len
  rw [hkl] at h256
  have HKL := Lib.hid hkl
  unfold RefsP
  clear hk ht h hkl
  have hmm := @run_makeMap Try.prog
  go_enter Try.func81, Try.ntmps81
  go_wp2_with (refine wpList_insert_map wordT _ rfl _ _ _ rfl rfl rfl rfl (MapF.made Try.prog .u64 .u64 47 47 w) (by unfold maxLen; omega) (by decide) (by decide) ?_; intro w2 hm2 hg2)
  have bm : Below w.heap.size w w2 := ((Below.refl _ w).alloc (Nat.le_refl _) _).trans (grown_below hg2 (Nat.le_refl _) (by simp))
  have HI := Lib.hid (⟨hm2, bm⟩ : RfI zs ks ps w w.heap.size 0 w2)
  have HG : Hid (w.heap.size ≤ w.heap.size) := Nat.le_refl _
  clear bm hm2 hg2 hmm
  obtain ⟨gm, hgm⟩ : ∃ g, w.heap.size = g := ⟨_, rfl⟩
  have HGM : Hid (w.heap.size ≤ gm) := Nat.le_of_eq hgm
  have HI : Hid (RfI zs ks ps w gm 0 w2) := by show RfI _ _ _ _ _ _ _; rw [← hgm]; exact HI.out
  rw [hgm]
  clear hgm
  go_loopw [12] (fun i wr => ∃ k : Nat, k ≤ n ∧ i = .int .i64 k ∧ Hid (RfI zs ks ps w gm k wr)) (fun i _ => n - (intOf i).toNat)
  case atStart => exact ⟨0, Nat.zero_le _, rfl, HI⟩
  case round =>
    obtain ⟨k, hkn, rfl, HI⟩ := hrel
    by_cases hlt : k < n
    · have hik : k < ks.length := by have := HKL.out; omega
      obtain ⟨b, off, rfl, _, hcs⟩ := (HK.out.below HI.out.below (Nat.le_refl _)).2.2 (by omega)
      have hc := hcs k hlt
      obtain ⟨b2, off2, rfl, _, hts⟩ := (HT.out.below HI.out.below (Nat.le_refl _)).2.2 (by omega)
      have hd := hts k hlt
      have hn256 := arena_len HOK.out.arena
      obtain ⟨a1, a2, a3, a4, a5, a6, a7, a8⟩ := HOK.out.nat hik
      have hnt : nth (toL zs ks ps) k = toN zs ks ps k := nth_toL hik
      rw [hnt, ← a1] at hd
      rw [← a2] at hc
      have HP : Hid (refTo zs ks ps (k + 1) = put (refTo zs ks ps k) ((kn ks k : Int) + 1) ((tn zs ks ps k : Int) + 1)) := by
        show _ = _; rw [a1, a2]; rfl
      have hs : kn ks k ≤ 256 := Nat.le_trans (Nat.le_trans (Nat.le_add_right _ _) a7) hn256
      have ht : tn zs ks ps k ≤ 256 := Nat.le_trans (Nat.le_trans (Nat.le_add_right _ _) a6) hn256
      clear hcs hts a1 a2 a3 a4 a5 a6 a7 a8 hnt hn256
      generalize kn ks k = s at *
      generalize tn zs ks ps k = t at *
      go_wp2
      refine wp_region_still_tail 8 (by kernel_rfl) (by kernel_rfl) ?_
      simp only [List.take_succ_cons, List.take_zero, List.drop_succ_cons, List.drop_zero]
      iterate 2 still_step
      still_call ((slideRef_any s _ hs).mono fun _ _ h => ⟨h.1, h.2.symm⟩)
      iterate 4 still_step
      still_call ((slideRef_any t _ ht).mono fun _ _ h => ⟨h.1, h.2.symm⟩)
      refine wpStill_nil ?_
      change wpList _ _ _ _ _ (wr.drewN 1)
      go_wp2_with (refine wpList_store_map wordT _ rfl _ _ _ rfl rfl rfl rfl (HI.out.map.drewN 1) (by unfold maxLen; omega) (wf_u64.2 (by omega)) (wf_u64.2 (by omega)) ?_; intro w3 hm3 hg3)
      have HN : Hid (RfI zs ks ps w gm (k + 1) w3) := ⟨by rw [HP.out]; exact hm3, (below_drewN HI.out.below 1).trans (grown_below hg3 HGM.out (by have := HI.out.below.size; exact this))⟩
      clear hm3 hg3
      go_roundw
      case rel => exact ⟨k + 1, by omega, by go_num, HN⟩
      case measure => simp [intOf]; omega
    · obtain rfl : k = n := by omega
      have HM := Lib.hid (HI.out.map.mono (n' := 300) (by omega))
      have HE : Hid (refTo zs ks ps k = refF zs ks ps) := by show _ = _; rw [← HKL.out]; rfl
      rw [HE.out] at HM
      have HB := Lib.hid HI.out.below
      go_wp2
      go_ret
      exact ⟨gm, rfl, HGM.out, HB.out, HM.out⟩

/-- copy(dst, src) of 'n' numbers into a block that is known whole, where there is room for more. -/
theorem run_copy_less {P : Program} {k : IntKind} {dT sT ty t : TypeId} (hu : P.underlying dT = some (.slice t)) (hs : (P.info? t).map (·.size) = some 1) {w : World} {B g off n dn dc sc : Nat} {sp : Option Addr} {cur src : List Int}
    (hW : Whole k t w g cur) (ha : Arr k w B sp n src) (h0 : 0 < n) (hm : n ≤ dn) (hfit : off + n ≤ cur.length) :
    Sem.run P (Builtin.copy_ #[dT, sT] ty #[.slice (some ⟨g, off, none⟩) dn dc, .slice sp n sc]) w = .ok (.int .i64 n) (w.setRow g ((splice cur off src).map (Value.int k)).toArray) := by
  obtain ⟨hl, hwf, hc⟩ := ha
  obtain ⟨b, o, rfl, _, hcell⟩ := hc h0
  have h := run_copy_row P w dT sT ty t g off dn dc ⟨b, o, none⟩ n sc _ t (src.map (Value.int k)) hu hs hW.1 (by rw [List.length_map, hl]; exact (Nat.min_eq_left hm).symm) ?_ (by simpa [hl] using hfit) ?_
  · rw [h]
    congr 2
    · simp [hl]
    · simp [splice, List.map_append, List.map_take, List.map_drop]
  · intro j v hj
    have hjl : j < n := by
      have := (List.getElem?_eq_some_iff.1 hj).1
      simpa [hl] using this
    have e : (⟨b, o, none⟩ : Addr).add j = ⟨b, o + j, none⟩ := by unfold Addr.add; split <;> simp_all
    rw [e, hcell j hjl, ← hj]
    simp [nth, List.getElem?_eq_getElem (by omega : j < src.length)]
  · intro v hv
    obtain ⟨z, _, rfl⟩ := List.mem_map.1 hv
    rfl
/-- What put answers. -/
def slPutP (us ys : List Int) (f : Int → Option Int) (g gm N t L R : Nat) (w : World) (e : Ending) (w' : World) : Prop := Below g w w' ∧
  ((e = .returned (.int .i64 0) ∧ (∀ d, 1 ≤ d → d ≤ R → (f (nth ys d)).isSome = true) ∧ Whole .u64 47 w' g (putO us ys f t L R) ∧ MapF Try.prog .u64 .u64 47 47 w' gm N f) ∨
   (e = .returned (.int .i64 8) ∧ ∃ d, 1 ≤ d ∧ d ≤ R ∧ f (nth ys d) = none))
/-- What holds while references are moved. -/
structure PutI (us ys : List Int) (f : Int → Option Int) (g gm N t L i gh : Nat) (hd : Array Value) (w wr : World) : Prop where
  whole : Whole .u64 47 wr g (putO us ys f t L i)
  map : MapF Try.prog .u64 .u64 47 47 wr gm N f
  below : Below g w wr
  box : Box wr gh 44 hd
  some_ : ∀ d, 1 ≤ d → d ≤ i → (f (nth ys d)).isSome = true
theorem PutI.set {us ys : List Int} {f : Int → Option Int} {g gm N t L i gh : Nat} {hd : Array Value} {w wr : World} (h : PutI us ys f g gm N t L i gh hd w wr) (hfit : t + L ≤ us.length) (hi : i + 1 < L) (hgm : gm ≠ g) (hgh : gh ≠ g) {x : Int} (hx : f (nth ys (i + 1)) = some x) (hxw : (Lit.int .u64 x).wf = true) :
    PutI us ys f g gm N t L (i + 1) gh hd w (wr.setCell ⟨g, t + (i + 1), none⟩ (.int .u64 x)) := by
  refine ⟨?_, h.map.setOther hgm.symm _ _, below_set h.below (Nat.le_refl _) _ _, h.box.setOther hgh _ _, fun d h1 h2 => ?_⟩
  · have h1 := h.whole.set_ (t + (i + 1)) x hxw
    have e := putO_set (us := us) (ys := ys) (f := f) hfit hi
    rw [hx] at e
    rw [← e]; exact h1
  · rcases Nat.lt_or_eq_of_le h2 with h3 | h3
    · exact h.some_ d h1 (by omega)
    · rw [h3, hx]; rfl

set_option maxRecDepth 8000 in
set_option maxHeartbeats 4000000 in
theorem slidePut_any (g t m cb : Nat) (D : Option Addr) (q cq gm N : Nat) (us ys : List Int) (f : Int → Option Int) (R Bn : Nat) (Tg : Int) (fr : Bool) (w : World) (hW : Whole .u64 47 w g us) (ha : Arr .u64 w g D q ys)
    (hm : MapF Try.prog .u64 .u64 47 47 w gm N f) (hgm : gm ≠ g) (hE : vErr (nth ys 0) = 0) (hR : vR (nth ys 0) = R) (hB : vB (nth ys 0) = Bn) (hT : vT (nth ys 0) = Tg) (hF : vF (nth ys 0) = fr) (hft : hFault R Bn Tg fr = 0)
    (hq : 1 + R + Bn ≤ q) (hqc : q ≤ cq) (hq2 : q ≤ 256) (hmt : 1 + R + Bn ≤ m) (htm : t + m ≤ us.length) :
    Calls Try.prog 82 #[.slice (some ⟨g, t, none⟩) m cb, .slice D q cq, .map (some gm)] w (slPutP us ys f g gm N t (1 + R + Bn) R w) := by
  have hwf := ha.2.1
  obtain ⟨b, off, rfl, hbg, hcs⟩ := ha.2.2 (by omega)
  have hl := ha.1
  have hw0 := hwf _ (nth_mem (l := ys) (j := 0) (by omega))
  rw [wf_u64] at hw0
  obtain ⟨v, hv⟩ := Int.eq_ofNat_of_zero_le hw0.1
  have hc0 := hcs 0 (by omega)
  rw [hv] at hw0 hE hR hB hT hF hc0
  have HRD := Lib.hid (fun wx => read_any v wx (by omega))
  rw [hE, hR, hB, hT, hF] at HRD
  have HLG := Lib.hid (fun wx => lengthOk R Bn Tg fr wx hft)
  have HCS : Hid (∀ wx, Below g w wx → ∀ d, d < q → wx.cell? ⟨b, off + d, none⟩ = some (.int .u64 (nth ys d))) := fun wx hb d hd => (hb.cell hbg).trans (hcs d hd)
  have HWF := Lib.hid hwf
  have HA := Lib.hid ha
  have HW := Lib.hid hW
  have HM := Lib.hid hm
  have HL := Lib.hid hl
  have hgw := hW.lt
  rw [Nat.add_zero] at hc0
  obtain ⟨L, hLn⟩ : ∃ L, 1 + R + Bn = L := ⟨_, rfl⟩
  have hRL : R + 1 ≤ L := by omega
  have hLI : 1 + (R : Int) + (Bn : Int) = (L : Int) := by omega
  rw [hLI] at HLG
  rw [hLn] at hq hmt ⊢
  unfold slPutP
  clear hw0 hE hR hB hT hF hft hwf ha hW hm hcs hv hl hLI hLn
  go_enter Try.func82, Try.ntmps82
  go_wp2_with fail
  refine (HRD.out w).mono ?_
  rintro e w1 ⟨rfl, b1⟩
  have b2 := (Below.refl _ w1).alloc (Nat.le_refl _) (.cells #[.int .i64 R, .int .i64 Bn, .int .i64 Tg, .bool fr] 44)
  have HB2 : Hid (Below g w (w1.alloc (.cells #[.int .i64 R, .int .i64 Bn, .int .i64 Tg, .bool fr] 44))) := (b1.mono (Nat.le_of_lt hgw)).trans (b2.mono (Nat.le_trans (Nat.le_of_lt hgw) b1.size))
  have HX2 := Lib.hid (Box.new w1 44 #[.int .i64 R, .int .i64 Bn, .int .i64 Tg, .bool fr])
  have HW2 := Lib.hid ((HW.out.below b1 hgw).below b2 (Nat.lt_of_lt_of_le hgw b1.size))
  have HM2 := Lib.hid ((HM.out.below b1 HM.out.lt).below b2 (Nat.lt_of_lt_of_le HM.out.lt b1.size))
  have HGH : Hid (g < w1.heap.size) := Nat.lt_of_lt_of_le hgw b1.size
  clear b1 b2 HW HM HRD hc0
  go_wp2_with fail
  refine (HLG.out _).mono ?_
  rintro e w3 ⟨rfl, b3⟩
  obtain ⟨gh, hgh⟩ : ∃ gh, w1.heap.size = gh := ⟨_, rfl⟩
  have HB3 := Lib.hid (HB2.out.trans (b3.mono (Nat.le_trans (Nat.le_of_lt hgw) HB2.out.size)))
  have HX3 := Lib.hid (HX2.out.below b3 HX2.out.lt)
  have HW3 := Lib.hid (HW2.out.below b3 HW2.out.lt)
  have HM3 := Lib.hid (HM2.out.below b3 HM2.out.lt)
  rw [hgh] at HX3 HGH ⊢
  clear b3 HB2 HX2 HW2 HM2 HLG hgh
  obtain ⟨D2, hs1, hD2⟩ := run_upto (P := Try.prog) Try.underlying22 u64_one (some ⟨b, off, none⟩) q cq L L rfl (by omega)
  obtain rfl := hD2 _ _ rfl
  have ha3 : Arr .u64 w3 g (some ⟨b, off, none⟩) L (ys.take L) := by
    have := (HA.out.below HB3.out (Nat.le_refl _)).cut (p := 0) (q := L) (D := some ⟨b, off, none⟩) (by omega) (fun b' off' e _ => by injection e with e; injection e with e1 e2; subst e1; subst e2; rfl)
    rwa [List.drop_zero] at this
  have hcp := run_copy_less (P := Try.prog) (dT := 22) (sT := 22) (ty := 3) (dc := cb) (sc := cq) Try.underlying22 u64_one HW3.out ha3 (by omega) hmt (off := t) (by omega)
  have hfit : t + L ≤ us.length := by omega
  have HI : Hid (PutI us ys f g gm N t L 0 gh #[.int .i64 R, .int .i64 Bn, .int .i64 Tg, .bool fr] w (w3.setRow g ((splice us t (ys.take L)).map (Value.int .u64)).toArray)) := by
    refine ⟨?_, HM3.out.keep (setRow_other _ _ _ _ hgm), below_setRow HB3.out (Nat.le_refl _) _, (setRow_other _ _ _ _ (Nat.ne_of_gt HGH.out)).trans HX3.out, fun d h1 h2 => absurd h1 (by omega)⟩
    rw [putO_zero (by have := HL.out; omega)]
    exact HW3.out.setRow fun z hz => (mem_splice hz).elim (HW3.out.2 z) (ha3.2.1 z)
  clear ha3 hD2 HX3 HW3 HM3 HB3
  generalize hRW : ((splice us t (ys.take L)).map (Value.int .u64)).toArray = RW at *
  clear hRW
  go_wp2_with fail
  clear hcp hs1
  go_loopw [10] (fun x wr => ∃ i J : Nat, i ≤ R ∧ i + 1 = J ∧ x = .int .i64 J ∧ Hid (PutI us ys f g gm N t L i gh #[.int .i64 R, .int .i64 Bn, .int .i64 Tg, .bool fr] w wr)) (fun x _ => R + 1 - (intOf x).toNat)
  case atStart => exact ⟨0, 1, Nat.zero_le _, rfl, rfl, HI⟩
  case round =>
    obtain ⟨i, J, hiR, hJ, rfl, HI'⟩ := hrel
    clear HI
    have x0 : wr.cell? ⟨gh, 0, none⟩ = some (.int .i64 R) := HI'.out.box.cell 0
    have HJ := Lib.hid hJ
    clear hJ
    by_cases hlt : i < R
    · have hJR : J ≤ R := by have := HJ.out; omega
      have hJq : J < q := by omega
      have c1 := HCS.out wr HI'.out.below J hJq
      have hlk := HI'.out.map.lookOk wordT (x := nth ys J) (HWF.out _ (nth_mem (by have := HL.out; omega)))
      have hxw := HI'.out.map.wf wordT (x := nth ys J) (HWF.out _ (nth_mem (by have := HL.out; omega)))
      cases hf : f (nth ys J) with
      | none =>
        rw [hf] at hlk
        have hlk : Sem.run Try.prog (Instr.lookup 138 (.map (some gm)) (.int .u64 (nth ys J)) true) wr = .ok (.tuple #[.int .u64 0, .bool false]) wr := hlk
        have HF : Hid (∃ d, 1 ≤ d ∧ d ≤ R ∧ f (nth ys d) = none) := ⟨J, by have := HJ.out; omega, hJR, hf⟩
        have HBB := Lib.hid HI'.out.below
        clear hf hxw HI'
        generalize nth ys J = X at *
        go_wp2
        go_ret
        exact ⟨HBB.out, .inr ⟨rfl, HF.out⟩⟩
      | some x =>
        rw [hf] at hlk hxw
        have hxw : (Lit.int .u64 x).wf = true := hxw
        have hlk : Sem.run Try.prog (Instr.lookup 138 (.map (some gm)) (.int .u64 (nth ys J)) true) wr = .ok (.tuple #[.int .u64 x, .bool true]) wr := hlk
        have hlen := putO_len (us := us) (ys := ys) (f := f) (i := i) hfit
        have d0 := HI'.out.whole.cell (j := t + J) (by rw [hlen]; omega)
        have f0 := HI'.out.whole.frozen (t + J)
        have hN := HI'.out.set hfit (by have := HJ.out; omega) hgm (Nat.ne_of_gt HGH.out) (x := x) (by rw [HJ.out]; exact hf) hxw
        rw [HJ.out] at hN
        have HN := Lib.hid hN
        have hJm : J < m := by omega
        clear hN hf hxw hlen HI'
        generalize nth ys J = X at *
        generalize nth (putO us ys f t L i) (t + J) = O at *
        go_wp2
        go_roundw
        case rel => exact ⟨J, J + 1, hJR, rfl, by go_num, HN⟩
        case measure => simp [intOf]; omega
    · have hnJ : R < J := by have := HJ.out; omega
      obtain rfl : i = R := by omega
      have HI2 := HI'
      clear HI' hlt
      go_wp2
      go_ret
      exact ⟨HI2.out.below, .inl ⟨rfl, HI2.out.some_, HI2.out.whole, HI2.out.map⟩⟩

section
variable {zs ks ps : List Int} {i : Nat}
/-- A reference's word is in the map just if what it names is kept. -/
theorem PlanOk.ref_iff (h : PlanOk zs ks ps) (hi : i < ks.length) {k : Nat} (hk : k < (vR (nth zs (kn ks i))).toNat) : (refF zs ks ps (nth (zs.drop (kn ks i)) (k + 1))).isSome = true ↔ (nth (named zs (kn ks i)) k < 0 ∨ nth (named zs (kn ks i)) k ∈ ks) := by
  obtain ⟨_, _, a3, _⟩ := h.nat hi
  have hn : nth (zs.drop (kn ks i)) (k + 1) = nth zs (kn ks i + 1 + k) := by unfold nth; simp [List.getD, List.getElem?_drop]; congr 2; omega
  rw [hn]
  rcases (ref_word h.arena a3 hk).2 with ⟨e1, e2⟩ | ⟨e1, e2⟩
  · rw [e1, e2, h.refF_some (.inl rfl)]
    exact ⟨fun _ => .inl (by decide), fun _ => rfl⟩
  · rw [e2]
    by_cases hin : nth (named zs (kn ks i)) k ∈ ks
    · rw [h.refF_some (.inr (by rw [show nth (named zs (kn ks i)) k + 1 - 1 = nth (named zs (kn ks i)) k by omega]; exact hin))]
      exact ⟨fun _ => .inr hin, fun _ => rfl⟩
    · rw [refF_none (by omega) (by rw [show nth (named zs (kn ks i)) k + 1 - 1 = nth (named zs (kn ks i)) k by omega]; exact hin)]
      exact ⟨fun hc => (by cases hc), fun hc => absurd hc (by rintro (hc | hc); omega; exact hin hc)⟩
theorem PlanOk.held_next (h : PlanOk zs ks ps) (hi : i < ks.length) {R : Nat} (hR : (vR (nth zs (kn ks i))).toNat = R) (hh : heldTo zs ks i) (hs : ∀ d, 1 ≤ d → d ≤ R → (refF zs ks ps (nth (zs.drop (kn ks i)) d)).isSome = true) : heldTo zs ks (i + 1) := fun j hj y hy => by
  rcases Nat.lt_succ_iff_lt_or_eq.1 hj with h1 | h1
  · exact hh j h1 y hy
  · subst h1
    obtain ⟨_, _, a3, _⟩ := h.nat hi
    have hy' : y ∈ named zs (kn ks j) := hy
    obtain ⟨k, hk, rfl⟩ := mem_nth hy'
    have hkR : k < (vR (nth zs (kn ks j))).toNat := by
      unfold named at hk
      rwa [List.length_map, refWords_len (begins_mem a3).2.2] at hk
    exact (h.ref_iff hi hkR).1 (hs (k + 1) (by omega) (by omega))
theorem PlanOk.held_bad (h : PlanOk zs ks ps) (hi : i < ks.length) {R : Nat} (hR : (vR (nth zs (kn ks i))).toNat = R) (hs : ∃ d, 1 ≤ d ∧ d ≤ R ∧ refF zs ks ps (nth (zs.drop (kn ks i)) d) = none) : heldB zs ks = false := by
  obtain ⟨d, h1, h2, h3⟩ := hs
  obtain ⟨_, _, a3, _⟩ := h.nat hi
  have hkR : d - 1 < (vR (nth zs (kn ks i))).toNat := by omega
  have hiff := h.ref_iff hi hkR
  rw [show d - 1 + 1 = d by omega, h3] at hiff
  have hno : ¬ (nth (named zs (kn ks i)) (d - 1) < 0 ∨ nth (named zs (kn ks i)) (d - 1) ∈ ks) := fun hc => by cases hiff.2 hc
  refine heldTo_not hi (y := nth (named zs (kn ks i)) (d - 1)) ?_ (fun hc => hno (.inl hc)) (fun hc => hno (.inr hc))
  show _ ∈ named zs (kn ks i)
  refine nth_mem ?_
  unfold named
  rw [List.length_map, refWords_len (begins_mem a3).2.2]
  exact hkR
end
/-- What holds while the objects are laid. -/
structure SlI (zs ks ps : List Int) (w2 : World) (g gm i : Nat) (wr : World) : Prop where
  whole : Whole .u64 47 wr g (slidAt zs ks ps i 0)
  map : MapF Try.prog .u64 .u64 47 47 wr gm 300 (refF zs ks ps)
  below : Below g w2 wr
  held : heldTo zs ks i
/-- What holds while the gaps are laid. -/
structure SgI (zs ks ps : List Int) (w2 : World) (g j : Nat) (wr : World) : Prop where
  whole : Whole .u64 47 wr g (joinTo (slidAt zs ks ps ks.length 0) ((gapP zs ks ps).take j))
  below : Below g w2 wr

/-- What Slide answers, its memory up to the capacity. -/
def SlideF (zs ks ps : List Int) (w : World) (e : Ending) (w' : World) : Prop := ∃ B m c D q d, e = .returned (.tuple #[.slice B m c, .slice D q d, .int .i64 (slideE zs ks ps)]) ∧ Below w.heap.size w w' ∧ m ≤ c ∧ Arr .u64 w' w'.heap.size B m (slideB zs ks ps) ∧ Arr .i64 w' w'.heap.size D q (slideT zs ks ps) ∧ SpareI .u64 47 w.heap.size w' B c
set_option maxRecDepth 8000 in
set_option maxHeartbeats 4000000 in
theorem slideF_any (A K P : Option Addr) (n c nk ck np cp : Nat) (zs ks ps : List Int) (w : World) (hn : n ≤ maxLen) (hnc : n ≤ c) (ha : Arr .u64 w w.heap.size A n zs) (hnk : nk ≤ maxLen) (hk : Arr .i64 w w.heap.size K nk ks) (hnp : np ≤ maxLen) (hp : Arr .i64 w w.heap.size P np ps) :
    Calls Try.prog 53 #[.slice A n c, .slice K nk ck, .slice P np cp] w (SlideF zs ks ps w) := by
  have HT := Lib.hid (planTo_any A K P n c nk ck np cp zs ks ps w hn hnc ha hnk hk hnp hp)
  have HA := Lib.hid ha
  have HK := Lib.hid hk
  have HP := Lib.hid hp
  have HAL := Lib.hid ha.1
  have HKL := Lib.hid hk.1
  have HWF := Lib.hid ha.2.1
  have HN : Hid (n ≤ maxLen ∧ nk ≤ maxLen ∧ np ≤ maxLen) := ⟨hn, hnk, hnp⟩
  unfold SlideF
  clear ha hk hp hn hnk hnp
  go_enter Try.func53, Try.ntmps53
  go_wp2_with fail
  refine HT.out.mono ?_
  rintro e w1 ⟨A1, m1, c1, rfl, b1, hA1⟩
  by_cases h0 : planE zs ks ps = 0
  · rw [h0]
    rw [toR_ok h0] at hA1
    have HOK := Lib.hid (planE_zero.1 h0)
    have H0 := Lib.hid h0
    obtain rfl : m1 = nk := by have h1 := hA1.1; rw [toL_len, HKL.out] at h1; exact h1.symm
    have HB1 := Lib.hid b1
    have HA1 := Lib.hid hA1
    have HG := Lib.hid (planGaps_any A K P n c m1 ck np cp zs ks ps w1 HN.out.1 hnc ((HA.out.below b1 (Nat.le_refl _)).more b1.size) HN.out.2.1 ((HK.out.below b1 (Nat.le_refl _)).more b1.size) HN.out.2.2 ((HP.out.below b1 (Nat.le_refl _)).more b1.size))
    clear HT h0 b1 hA1
    go_wp2_with fail
    refine HG.out.mono ?_
    rintro e w2 ⟨F, r, fc, rfl, b2, hF⟩
    rw [H0.out]
    rw [gapR_ok H0.out] at hF
    have hm256 : m1 ≤ 256 := by have := HOK.out.len; rw [HKL.out] at this; exact this
    have hn256 : n ≤ 256 := by have := arena_len HOK.out.arena; rw [HAL.out] at this; exact this
    have HB2 := Lib.hid (HB1.out.trans (b2.mono HB1.out.size))
    have HA2 := Lib.hid ((HA1.out.below b2 (Nat.le_refl _)).more b2.size)
    have HF := Lib.hid hF
    have HNW := Lib.hid (new_ok n w2 (by omega) (by omega))
    rw [Int.toNat_natCast] at HNW
    clear HG HB1 HA1 b2 hF
    go_wp2_with fail
    refine HNW.out.mono ?_
    rintro e w3 ⟨rfl, hW3, b3⟩
    have HW3 := Lib.hid hW3
    have HB3 := Lib.hid b3
    have HRF := Lib.hid (slideRefs_any K A1 m1 ck c1 zs ks ps w3 ((HK.out.below (HB2.out.trans (b3.mono HB2.out.size)) (Nat.le_refl _)).more (Nat.le_trans HB2.out.size b3.size)) ((HA2.out.below b3 (Nat.le_refl _)).more b3.size) HOK.out)
    clear hW3 b3 HNW
    go_wp2_with fail
    refine HRF.out.mono ?_
    rintro e w4 ⟨gm, rfl, hgm, b4, hM4⟩
    have hg3 := HW3.out.lt
    have HI : Hid (SlI zs ks ps w2 w2.heap.size gm 0 w4) := ⟨by rw [slidAt_zero, HAL.out]; exact HW3.out.below b4 hg3, hM4, HB3.out.trans (b4.mono HB3.out.size), fun j hj => absurd hj (by omega)⟩
    obtain ⟨g, hg⟩ : ∃ g, w2.heap.size = g := ⟨_, rfl⟩
    have HG : Hid (w2.heap.size = g) := hg
    have hgg : gm ≠ g := by omega
    rw [hg] at HI
    rw [hg]
    clear hg hg3 hgm b4 hM4 HRF HW3 HB3
    go_wp2_with fail
    go_loopw [53] (fun x wr => ∃ i : Nat, i ≤ m1 ∧ x = .int .i64 i ∧ Hid (SlI zs ks ps w2 g gm i wr)) (fun x _ => m1 - (intOf x).toNat)
    case atStart => exact ⟨0, Nat.zero_le _, rfl, HI⟩
    case round =>
      obtain ⟨i, him, rfl, HI'⟩ := hrel
      clear HI
      by_cases hlt : i < m1
      · have hik : i < ks.length := by have := HKL.out; omega
        have hbw : Below w.heap.size w wr := HB2.out.trans (HI'.out.below.mono (by rw [← HG.out]; exact HB2.out.size))
        obtain ⟨b, off, rfl, _, hcs⟩ := (HK.out.below hbw (Nat.le_refl _)).2.2 (by omega)
        have hc := hcs i hlt
        have hA2 : Arr .i64 wr w2.heap.size A1 m1 (toL zs ks ps) := HA2.out.below HI'.out.below (by rw [HG.out]; exact Nat.le_refl _)
        obtain ⟨b2, off2, rfl, _, hts⟩ := hA2.2.2 (by omega)
        have hd := hts i hlt
        obtain ⟨a1, a2, a3, a4, a5, a6, a7, a8⟩ := HOK.out.nat hik
        have hnt : nth (toL zs ks ps) i = toN zs ks ps i := nth_toL hik
        rw [hnt, ← a1] at hd
        rw [← a2] at hc
        obtain ⟨R, Bn, hR, hB, q1, q2, q3, q4, q5, q6, q7, q8⟩ := spot_facts (begins_mem a3).2.2 HWF.out (begins_mem a3).2.1
        have hnn : ∀ d, nth (zs.drop (kn ks i)) d = nth zs (kn ks i + d) := fun d => by unfold nth; simp [List.getD, List.getElem?_drop]
        have hvb : vErr (nth (zs.drop (kn ks i)) 0) = 0 := by
          rw [hnn, Nat.add_zero]
          unfold vErr
          rw [(stepOk_iff.1 (begins_mem a3).2.2).1]
          rfl
        have hLN : longN zs (kn ks i) = 1 + R + Bn := q7
        rw [a4] at q6
        have hal := HAL.out
        have hRN : (vR (nth zs (kn ks i))).toNat = R := by rw [hR]; rfl
        have HPL := Lib.hid (fun hs => HOK.out.put_laid (L := 1 + R + Bn) (R := R) hik hLN hRN hs)
        have HHN := Lib.hid (fun hs => HOK.out.held_next (R := R) hik hRN HI'.out.held hs)
        have HHB := Lib.hid (fun hs => HOK.out.held_bad (R := R) hik hRN hs)
        have hsn : kn ks i ≤ n := by omega
        have htn : tn zs ks ps i ≤ n := by omega
        have hsl : 1 + R + Bn ≤ n - kn ks i := by omega
        have htl : 1 + R + Bn ≤ n - tn zs ks ps i := by omega
        obtain ⟨D1, hs1, hD1⟩ := run_from (P := Try.prog) Try.underlying22 u64_one (some ⟨g, 0, none⟩) n n (tn zs ks ps i) (tn zs ks ps i) rfl htn (Nat.le_refl _)
        obtain rfl := hD1 _ _ rfl (by omega)
        rw [Nat.zero_add] at hs1
        obtain ⟨D2, hs2, hD2⟩ := run_from (P := Try.prog) Try.underlying22 u64_one A n c (kn ks i) (kn ks i) rfl hsn hnc
        have hA3 : Arr .u64 (wr.drewN 1) g D2 (n - kn ks i) (zs.drop (kn ks i)) := by
          have h1 := (((HA.out.below hbw (Nat.le_refl _)).drewN 1).cut (p := kn ks i) (q := n - kn ks i) (by omega) hD2).more (B' := g) (by rw [← HG.out]; exact HB2.out.size)
          rwa [List.take_of_length_le (by rw [List.length_drop]; omega)] at h1
        have HPT := Lib.hid (slidePut_any g (tn zs ks ps i) (n - tn zs ks ps i) (n - tn zs ks ps i) D2 (n - kn ks i) (c - kn ks i) gm 300 (slidAt zs ks ps i 0) (zs.drop (kn ks i)) (refF zs ks ps) R Bn (vT (nth zs (kn ks i))) false (wr.drewN 1)
          (HI'.out.whole.below (below_drewN (Below.refl _ _) 1) HI'.out.whole.lt) hA3 (HI'.out.map.drewN 1) hgg hvb (by rw [hnn]; exact hR) (by rw [hnn]; exact hB) (by rw [hnn]; rfl) (by rw [hnn]; exact a4) q6 hsl (by omega) (by omega) htl (by rw [slidAt_len]; omega))
        have HBL := Lib.hid (below_drewN HI'.out.below 1)
        clear hcs hts a1 a2 a3 a4 a5 a6 a7 a8 hnt hR hB q1 q2 q3 q4 q5 q6 q7 q8 hnn hvb hLN hal hRN hA2 hA3 hD1 hD2 hbw HI'
        go_wp2_with fail
        go_still_tail 10, (by kernel_rfl)
        change wpList _ _ _ _ _ (wr.drewN 1)
        clear hs1 hs2 hc hd
        go_wp2_with fail
        refine HPT.out.mono ?_
        rintro e w5 ⟨b5, hP⟩
        have HB5 : Hid (Below g w2 w5) := HBL.out.trans b5
        clear b5 HPT HBL
        rcases hP with ⟨rfl, hsome, hW5, hM5⟩ | ⟨rfl, hno⟩
        · rw [HPL.out hsome] at hW5
          have HN5 : Hid (SlI zs ks ps w2 g gm (i + 1) w5) := ⟨hW5, hM5, HB5.out, HHN.out hsome⟩
          clear hsome hW5 hM5
          go_wp2
          go_roundw
          case rel => exact ⟨i + 1, by omega, by go_num, HN5⟩
          case measure => simp [intOf]; omega
        · have HE : Hid (slideE zs ks ps = 8) := slideE_held H0.out (HHB.out hno)
          clear hno
          go_wp2
          go_ret3
          exact ⟨none, 0, 0, none, 0, 0, by rw [HE.out]; rfl, HB2.out.trans (HB5.out.mono (by rw [← HG.out]; exact HB2.out.size)), Nat.le_refl _, by rw [slideB_bad (by rw [HE.out]; decide)]; exact Arr.zero, by rw [slideT_bad (by rw [HE.out]; decide)]; exact Arr.zero, SpareI.nil⟩
      · obtain rfl : i = m1 := by omega
        have HHD := Lib.hid (heldTo_all (zs := zs) (ks := ks) (by rw [HKL.out]; exact HI'.out.held))
        have hrl := HF.out.1
        have HRL := Lib.hid hrl
        have hr256 : r ≤ 257 := by
          have h1 := HOK.out.few
          have h2 := HOK.out.plen
          omega
        have HI2 : Hid (SgI zs ks ps w2 g 0 wr) := ⟨by rw [List.take_zero]; have := HI'.out.whole; rw [← HKL.out] at this; exact this, HI'.out.below⟩
        clear HI' hrl
        go_wp2_with fail
        generalize wr = W0 at *
        go_loopw [75] (fun x wx => ∃ j : Nat, j ≤ r ∧ x = .int .i64 j ∧ Hid (SgI zs ks ps w2 g j wx)) (fun x _ => r - (intOf x).toNat)
        case atStart => exact ⟨0, Nat.zero_le _, rfl, HI2⟩
        case round =>
          obtain ⟨j, hjr, rfl, HI⟩ := hrel
          clear HI2
          by_cases hlt2 : j < r
          · have hF2 : ArrG runC 2 wr w2.heap.size F r (gapP zs ks ps) := HF.out.below HI.out.below (by rw [HG.out]; exact Nat.le_refl _)
            obtain ⟨b, off, rfl, _, hc0, hc1⟩ := hF2.run hlt2
            have hj : j < (gapP zs ks ps).length := by have := HRL.out; omega
            obtain ⟨s, L, e1, e2, hL, hsl, _⟩ := HOK.out.slid_gap0 hj
            have hset := HOK.out.gapAt hj
            rw [e1, e2, Int.toNat_natCast, Int.toNat_natCast] at hset
            rw [e1] at hc0
            rw [e2] at hc1
            have hal := HAL.out
            have hsn : s < n := by omega
            have hL256 : L ≤ 256 := by omega
            have hwf := (fWord_facts hL hL256).2.2.2
            have hwrd := word_any 0 ((L : Int) - 1) 0 true
            have hfw : wordOr 0 ((L : Int) - 1) 0 true = fWord L := by unfold wordOr; rw [if_pos (fWord_fault hL hL256)]; rfl
            rw [hfw, fWord_fault hL hL256] at hwrd
            have HFH := Lib.hid hwrd
            have b5 := (Below.refl _ wr).alloc (Nat.le_refl _) (.cells #[.int .i64 s, .int .i64 L] 64)
            have HGW : Hid (g < wr.heap.size) := HI.out.whole.lt
            have HW5 := Lib.hid (HI.out.whole.below b5 HI.out.whole.lt)
            have HBB5 := Lib.hid (HI.out.below.trans (b5.mono (Nat.le_of_lt HI.out.whole.lt)))
            have HX5 := Lib.hid (Box.new wr 64 #[.int .i64 s, .int .i64 L])
            have HST := Lib.hid hset
            have HJL : Hid ((joinTo (slidAt zs ks ps ks.length 0) ((gapP zs ks ps).take j)).length = n) := by
              show _ = _
              rw [HOK.out.gap_len hj]; exact hal
            clear hset e1 e2 hal hsl hj b5 HI hwrd hfw hF2
            generalize hV : fWord L = V at *
            clear hV
            go_wp2_with fail
            obtain ⟨gx, hgx⟩ : ∃ gx, wr.heap.size = gx := ⟨_, rfl⟩
            rw [hgx] at HX5
            rw [hgx]
            clear hgx hc0 hc1
            have HW6 : Hid (Whole .u64 47 ((wr.alloc (.cells #[.int .i64 s, .int .i64 L] 64)).drewN 1) g (joinTo (slidAt zs ks ps ks.length 0) ((gapP zs ks ps).take j))) := HW5.out
            have HBB6 := Lib.hid (below_drewN HBB5.out 1)
            have HX6 : Hid (Box ((wr.alloc (.cells #[.int .i64 s, .int .i64 L] 64)).drewN 1) gx 64 #[.int .i64 s, .int .i64 L]) := HX5.out
            have e9 : IntKind.i64.wrap ((L : Int) - 1) = (L : Int) - 1 := IntWalk.i64_in _ (by omega)
            clear HW5 HBB5 HX5
            refine wp_region_Y 12 (fun w' => w'.cell? ⟨gx, 0, none⟩ = some (.int .i64 s) ∧ w'.cell? ⟨gx, 1, none⟩ = some (.int .i64 L)) (by kernel_rfl) ?_
            change anyY _ _ _ _ _ _ _ _ _ ((wr.alloc (.cells #[.int .i64 s, .int .i64 L] 64)).drewN 1)
            generalize ((wr.alloc (.cells #[.int .i64 s, .int .i64 L] 64)).drewN 1) = W at *
            have hS0 : W.cell? ⟨gx, 0, none⟩ = some (.int .i64 s) ∧ W.cell? ⟨gx, 1, none⟩ = some (.int .i64 L) := ⟨HX6.out.cell 0, HX6.out.cell 1⟩
            refine anyY_pure (i := 0) (v := .slice (some ⟨g, 0, none⟩) n n) rfl rfl rfl (by kernel_rfl) (by kernel_rfl) (by kernel_rfl) (fun _ _ _ h => h) (Or.inl ⟨by rfl, fun wx _ => ?_⟩) (.inr hS0) ?_
            · go_simp
            refine anyY_pure (i := 1) (v := .pointer (some ⟨gx, 0, none⟩)) rfl rfl rfl (by kernel_rfl) (by kernel_rfl) (by kernel_rfl) (fun _ _ _ h => h) (Or.inl ⟨by rfl, fun wx _ => ?_⟩) (.inr hS0) ?_
            · go_simp
            refine anyY_take (i := 2) (v := .int .i64 s) rfl rfl (by kernel_rfl) rfl (by kernel_rfl) (by kernel_rfl) (by kernel_rfl) (by kernel_rfl) (fun _ _ _ h => h) (Or.inl ⟨by rfl, fun wx hS => ?_⟩) hS0 ?_
            · obtain ⟨q0, q1⟩ := hS
              go_simp
            refine anyY_pure (i := 3) (v := .pointer (some ⟨gx, 1, none⟩)) rfl rfl rfl (by kernel_rfl) (by kernel_rfl) (by kernel_rfl) (fun _ _ _ h => h) (Or.inl ⟨by rfl, fun wx _ => ?_⟩) (.inr hS0) ?_
            · go_simp
            refine anyY_take (i := 4) (v := .int .i64 L) rfl rfl (by kernel_rfl) rfl (by kernel_rfl) (by kernel_rfl) (by kernel_rfl) (by kernel_rfl) (fun _ _ _ h => h) (Or.inl ⟨by rfl, fun wx hS => ?_⟩) hS0 ?_
            · obtain ⟨q0, q1⟩ := hS
              go_simp
            refine anyY_pure (i := 5) (v := .int .i64 ((L : Int) - 1)) rfl rfl rfl (by kernel_rfl) (by kernel_rfl) (by kernel_rfl) (fun _ _ _ h => h) (Or.inl ⟨by rfl, fun wx _ => ?_⟩) (.inr hS0) ?_
            · go_simp
            refine anyY_pure (i := 6) (v := .agg #[.int .i64 0, .int .i64 ((L : Int) - 1), .int .i64 0, .bool true]) rfl rfl rfl (by kernel_rfl) (by kernel_rfl) (by kernel_rfl) (fun _ _ _ h => h) (Or.inl ⟨by rfl, fun wx _ => ?_⟩) (.inr hS0) ?_
            · go_simp
            refine anyY_only (i := 7) (by kernel_rfl) ?_
            refine wpOp_step rfl fun K' hK' => ?_
            go_simp
            refine (HFH.out _).mono ?_
            rintro e w7 ⟨rfl, b7⟩
            have HGW7 : Hid (g < W.heap.size) := HW6.out.lt
            have HW7 := Lib.hid (HW6.out.below b7 HW6.out.lt)
            have HBB7 := Lib.hid (HBB6.out.trans (b7.mono (Nat.le_of_lt HW6.out.lt)))
            have HX7 := Lib.hid (HX6.out.below b7 HX6.out.lt)
            have hS2 : w7.cell? ⟨gx, 0, none⟩ = some (.int .i64 s) ∧ w7.cell? ⟨gx, 1, none⟩ = some (.int .i64 L) := ⟨HX7.out.cell 0, HX7.out.cell 1⟩
            refine hK' _ _ ⟨.inr (.inr hS2), ?_⟩
            clear hK' hS0 b7 HW6 HBB6 HX6
            refine anyY_pure (i := 8) (v := .tuple #[.int .u64 V, .int .i64 0]) rfl rfl rfl (by kernel_rfl) (by kernel_rfl) (by kernel_rfl) (fun _ _ _ h => h) (Or.inl ⟨by rfl, fun wx _ => ?_⟩) (.inr hS2) ?_
            · go_simp
            refine anyY_pure (i := 9) (v := .int .u64 V) rfl rfl rfl (by kernel_rfl) (by kernel_rfl) (by kernel_rfl) (fun _ _ _ h => h) (Or.inl ⟨by rfl, fun wx _ => ?_⟩) (.inr hS2) ?_
            · go_simp
            refine anyY_pure (i := 10) (v := .int .i64 0) rfl rfl rfl (by kernel_rfl) (by kernel_rfl) (by kernel_rfl) (fun _ _ _ h => h) (Or.inl ⟨by rfl, fun wx _ => ?_⟩) (.inr hS2) ?_
            · go_simp
            refine anyY_pure (i := 11) (v := .pointer (some ⟨g, s, none⟩)) rfl rfl rfl (by kernel_rfl) (by kernel_rfl) (by kernel_rfl) (fun _ _ _ h => h) (Or.inl ⟨by rfl, fun wx _ => ?_⟩) (.inr hS2) ?_
            · go_simp
            refine anyY_only (i := 12) (by kernel_rfl) ?_
            have d0 := HW7.out.cell (j := s) (by rw [HJL.out]; exact hsn)
            have f0 := HW7.out.frozen s
            have hN := HW7.out.set_ s V hwf
            rw [HST.out] at hN
            have HN : Hid (SgI zs ks ps w2 g (j + 1) (w7.setCell ⟨g, s, none⟩ (.int .u64 V))) := ⟨hN, below_set HBB7.out (Nat.le_refl _) _ _⟩
            clear HW7 HX7 hS2 hN HBB7
            generalize nth (joinTo (slidAt zs ks ps ks.length 0) ((gapP zs ks ps).take j)) s = O at *
            refine wpOp_step rfl fun K' hK' => ?_
            go_simp
            refine hK' _ _ ⟨.inr (.inl rfl), ?_⟩
            clear hK' d0 f0
            generalize (w7.setCell ⟨g, s, none⟩ (.int .u64 V)) = W8 at *
            refine anyY_pure (i := 13) (v := .int .i64 0) rfl rfl rfl (by kernel_rfl) (by kernel_rfl) (by kernel_rfl) (fun _ _ _ h => h) (Or.inl ⟨by rfl, fun wx _ => ?_⟩) (.inl (by kernel_rfl)) ?_
            · go_simp
            refine anyY_done (by kernel_rfl) ?_ _
            go_wp2
            go_roundw
            case rel => exact ⟨j + 1, by omega, by go_num, HN⟩
            case measure => simp [intOf]; omega
          · obtain rfl : j = r := by omega
            have hW := HI.out.whole
            rw [← HRL.out, slid_gaps_all] at hW
            have harr := hW.arr hW.lt
            rw [HOK.out.slid_len, HAL.out] at harr
            have HE : Hid (slideE zs ks ps = 0) := slideE_ok H0.out HHD.out
            have HAR := Lib.hid harr
            have HTO := Lib.hid ((HA2.out.below HI.out.below (by rw [HG.out]; exact Nat.le_refl _)).more (B' := wr.heap.size) (by rw [HG.out]; exact Nat.le_of_lt hW.lt))
            have HBB := Lib.hid (HB2.out.trans (HI.out.below.mono (by rw [← HG.out]; exact HB2.out.size)))
            have HSP : Hid (SpareI .u64 47 w.heap.size wr (some ⟨g, 0, none⟩) n) := .inr ⟨g, _, rfl, by rw [← HG.out]; exact HB2.out.size, by rw [HOK.out.slid_len, HAL.out], HN.out.1, hW⟩
            clear hW harr HI
            go_wp2
            go_ret3
            exact ⟨_, _, _, _, _, _, by rw [HE.out]; rfl, HBB.out, Nat.le_refl _, by rw [slideB_ok HE.out]; exact HAR.out, by rw [slideT_ok HE.out]; exact HTO.out, HSP.out⟩
  · have HB1 := Lib.hid b1
    have HE := Lib.hid (slideE_plan h0)
    have HE0 := Lib.hid h0
    obtain ⟨E, hE⟩ : ∃ E, planE zs ks ps = E := ⟨_, rfl⟩
    rw [hE] at HE h0 ⊢
    have hb : (E != 0) = true := by simpa using h0
    clear hA1 b1 hE h0 HT
    go_wp2
    go_ret3
    exact ⟨none, 0, 0, none, 0, 0, by rw [HE.out]; rfl, HB1.out, Nat.le_refl _, by rw [slideB_bad (by unfold slideE; rw [if_neg HE0.out]; exact HE0.out)]; exact Arr.zero, by rw [slideT_bad (by unfold slideE; rw [if_neg HE0.out]; exact HE0.out)]; exact Arr.zero, SpareI.nil⟩
theorem slide_any : SlideC := fun A K P n c nk ck np cp zs ks ps w hn hnc ha hnk hk hnp hp =>
  (slideF_any A K P n c nk ck np cp zs ks ps w hn hnc ha hnk hk hnp hp).mono fun _ _ ⟨B, m, c, D, q, d, h1, h2, h3, h4, h5, _⟩ => ⟨B, m, c, D, q, d, h1, h2, h3, h4, h5⟩
end Go.Proofs.Ytjefbekdjgmmbaa
