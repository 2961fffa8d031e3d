/-
  Contract of the reference's Laid.
-/
import Derived.Test.YtjefbekdjgmmbaaLay
namespace Go.Proofs.Ytjefbekdjgmmbaa
open Go.RowKit

/-- What holds while add goes over the references. -/
structure AddO (f : Int → Option Int) (o : Ob) (w : World) (v : Value) (zs : List Int) (base g : Nat) (cs : Array Value) (k : Nat) (u : Value) (wr : World) : Prop where
  own : Own .u64 47 wr base u (zs ++ hWord o.2.1.length o.2.2.1.length o.1 o.2.2.2 :: (o.2.1.take k).map (fun i => (f i).getD 0))
  grew : Grew w v wr u
  ok : ∀ j, j < k → (f (nth o.2.1 j)).isSome = true
  box : Box wr g 41 cs
  ne : u.ownBlock ≠ some g
theorem AddO.next {f : Int → Option Int} {o : Ob} {w : World} {v : Value} {zs : List Int} {base g : Nat} {cs : Array Value} {k : Nat} {u u' : Value} {wr wr' : World} (h : AddO f o w v zs base g cs k u wr) (hg : Grew wr u wr' u') (hs : (f (nth o.2.1 k)).isSome = true)
    (hO : Own .u64 47 wr' base u' (zs ++ hWord o.2.1.length o.2.2.1.length o.1 o.2.2.2 :: (o.2.1.take (k + 1)).map (fun i => (f i).getD 0))) : AddO f o w v zs base g cs (k + 1) u' wr' :=
  have hb := h.box.grew hg h.ne
  ⟨hO, h.grew.trans hg, fun j hj => by
    rcases Nat.lt_succ_iff_lt_or_eq.1 hj with hj | hj
    · exact h.ok j hj
    · rw [hj]; exact hs, hb.1, hb.2⟩


section
variable {os : List Ob} {n : Nat}
theorem pMap_null : ∀ k, pMap os n k (-1) = some 0
  | 0 => rfl
  | k + 1 => by
    by_cases h : (nthG os k).2.2.2 = false ∧ offs os k + oLong (nthG os k) ≤ n
    · rw [pMap_in h.1 h.2, put_other _ (by omega)]; exact pMap_null k
    · rw [pMap, if_neg h]; exact pMap_null k
theorem pMap_hit : ∀ (k : Nat) {j : Nat}, offs os os.length ≤ n → k ≤ os.length → j < k → (nthG os j).2.2.2 = false → pMap os n k (j : Int) = some ((offs os j : Int) + 1)
  | 0, j, _, _, hj, _ => absurd hj (by omega)
  | k + 1, j, ht, hk, hj, hf => by
    by_cases he : j = k
    · subst he
      have := offs_mono (os := os) (i := j + 1) (j := os.length) (by omega) (Nat.le_refl _)
      rw [offs_step (by omega)] at this
      rw [pMap_in hf (by omega), put_same]
    · have ih := pMap_hit k ht (by omega) (by omega) hf
      by_cases h : (nthG os k).2.2.2 = false ∧ offs os k + oLong (nthG os k) ≤ n
      · rw [pMap_in h.1 h.2, put_other _ (by omega)]; exact ih
      · rw [pMap, if_neg h]; exact ih
theorem pMap_some : ∀ (k : Nat) {x y : Int}, x ≠ -1 → pMap os n k x = some y → ∃ j : Nat, j < k ∧ x = j ∧ (nthG os j).2.2.2 = false
  | 0, x, y, hx, h => by
    unfold pMap at h
    rw [put_other _ hx] at h; cases h
  | k + 1, x, y, hx, h => by
    by_cases hc : (nthG os k).2.2.2 = false ∧ offs os k + oLong (nthG os k) ≤ n
    · rw [pMap_in hc.1 hc.2] at h
      by_cases he : x = k
      · exact ⟨k, by omega, he, hc.1⟩
      · rw [put_other _ he] at h
        obtain ⟨j, h1, h2⟩ := pMap_some k hx h
        exact ⟨j, by omega, h2⟩
    · rw [pMap, if_neg hc] at h
      obtain ⟨j, h1, h2⟩ := pMap_some k hx h
      exact ⟨j, by omega, h2⟩
/-- A reference that is not good. -/
theorem pMap_bad {x : Int} (h : x < -1 ∨ (os.length : Int) ≤ x ∨ ∃ j : Nat, x = j ∧ (nthG os j).2.2.2 = true) : (pMap os n os.length x).isSome = false := by
  cases hp : pMap os n os.length x with
  | none => rfl
  | some y =>
    exfalso
    by_cases hx : x = -1
    · subst hx
      rcases h with h | h | ⟨j, h, _⟩ <;> omega
    · obtain ⟨j, hj, rfl, hf⟩ := pMap_some os.length hx hp
      rcases h with h | h | ⟨i, h, hf'⟩
      · omega
      · omega
      · have : j = i := by omega
        subst this
        rw [hf] at hf'; cases hf'
end

set_option maxHeartbeats 400000 in
theorem freeHeadL_any (k : Nat) (w : World) (h0 : 0 < k) (hk : k ≤ 256) :
    Calls Try.prog 50 #[.int .i64 k] w fun e w' => e = .returned (.int .u64 (hWord 0 ((k - 1 : Nat) : Int) 0 true)) ∧ Below w.heap.size w w' := by
  have HC := Lib.hid (headWord_true 0 (k - 1) 0 w (by omega) (by omega) (by omega))
  have e1 : (k : Int) - 1 = ((k - 1 : Nat) : Int) := by omega
  have e2 : IntKind.i64.wrap ((k : Int) - 1) = ((k - 1 : Nat) : Int) := by rw [e1]; exact IntWalk.i64_in _ (by omega)
  go_enter Try.func50, Try.ntmps50
  go_wp2_with fail
  refine HC.out.mono ?_
  rintro e w1 ⟨rfl, b1⟩
  have HB := Lib.hid b1
  clear b1 HC
  have e0 : hWord ((0 : Nat) : Int) ((k - 1 : Nat) : Int) ((0 : Nat) : Int) true = hWord 0 ((k - 1 : Nat) : Int) 0 true := rfl
  rw [e0]
  clear e0
  go_wp2
  go_ret
  exact ⟨rfl, HB.out⟩

theorem i64_info2 : (Try.prog.info? 3).map (fun i => (i.zero, i.size, i.bytes)) = some (some (.int .i64 0), 1, 8) := by kernel_rfl

/-- Where the first 'k' objects begin. -/
def offList (os : List Ob) (k : Nat) : List Int := (List.range k).map (fun j => (offs os j : Int))
theorem offList_len (os : List Ob) (k : Nat) : (offList os k).length = k := by simp [offList]
theorem offList_step (os : List Ob) (k : Nat) : offList os (k + 1) = offList os k ++ [(offs os k : Int)] := by simp [offList, List.range_succ]
theorem offList_nth {os : List Ob} {k j : Nat} (h : j < k) : nth (offList os k) j = (offs os j : Int) := by
  rw [nth_get _ _ (by rw [offList_len]; exact h)]; simp [offList]

set_option maxHeartbeats 400000 in
theorem laid_range (A : Option Addr) (N c : Nat) (n : Int) (os : List Ob) (w : World) (h : n < 0 ∨ 256 < n) :
    Calls Try.prog 16 #[.slice A N c, .int .i64 n] w (LayP os n w) := by
  have HE := Lib.hid (layErr_range (os := os) h)
  rcases h with h | h
  · go_enter Try.func16, Try.ntmps16
    go_wp2
    go_ret2
    exact ⟨Below.refl _ _, _, _, _, by rw [HE.out]; rfl, Nat.le_refl _, .inl ⟨by rw [HE.out]; decide, rfl⟩⟩
  · go_enter Try.func16, Try.ntmps16
    go_wp2
    go_ret2
    exact ⟨Below.refl _ _, _, _, _, by rw [HE.out]; rfl, Nat.le_refl _, .inl ⟨by rw [HE.out]; decide, rfl⟩⟩

/-- What holds while Laid finds where the objects begin. -/
structure LdB (os : List Ob) (w : World) (k : Nat) (u : Value) (wr : World) : Prop where
  own : Own .i64 3 wr w.heap.size u (offList os k)
  below : Below w.heap.size w wr
  ok : ∀ j, j < k → oFault (nthG os j) = 0

/-- What holds while Laid lays the words. -/
structure LdW (os : List Ob) (n : Nat) (w5 : World) (k : Nat) (u : Value) (wr : World) : Prop where
  own : Own .u64 47 wr w5.heap.size u ((os.take k).flatMap (obWords (pMap os n os.length)))
  below : Below w5.heap.size w5 wr
  ok : ∀ j, j < k → refsFit (pMap os n os.length) (nthG os j) = true
def sliceLen : Value → Nat
  | .slice _ n _ => n
  | _ => 0
theorem fit_none {os : List Ob} {n k : Nat} (hn : n ≤ 256) (hp : pErr os n = 0) (hk : k < os.length) {x : Int} (hx : x ∈ (nthG os k).2.1) (h : (pMap os n os.length x).isSome = false) : layErr os n = 5 := by
  refine layErr_none hn hp ?_
  rw [List.all_eq_false]
  refine ⟨nthG os k, by rw [nthG_get _ _ hk]; exact List.getElem_mem _, ?_⟩
  unfold refsFit
  intro hh
  rw [List.all_eq_true] at hh
  have := hh x hx
  rw [h] at this; cases this
theorem fit_all {os : List Ob} {n : Nat} (hn : n ≤ 256) (hp : pErr os n = 0) (h : ∀ j, j < os.length → refsFit (pMap os n os.length) (nthG os j) = true) : layErr os n = 0 := by
  refine layErr_fit hn hp ?_
  rw [List.all_eq_true]
  intro x hx
  obtain ⟨i, hi, rfl⟩ := List.getElem_of_mem hx
  have := h i hi
  rwa [nthG_get _ _ hi] at this

set_option maxRecDepth 8000 in
set_option maxHeartbeats 8000000 in
theorem laid_in (A : Option Addr) (N c n B lo : Nat) (raws : List Raw) (os : List Ob) (w : World) (hn : n ≤ 256) (hN : N ≤ 256) (hB : B ≤ w.heap.size) (hv : ObsAt w lo B A N raws os) (hs : ∀ j, j < N → (nthG raws j).rn ≤ maxLen ∧ (nthG raws j).bn ≤ maxLen) :
    Calls Try.prog 16 #[.slice A N c, .int .i64 n] w (LayP os n w) := by
  have HV := Lib.hid hv
  have HS := Lib.hid hs
  have hos := hv.1
  clear hv hs
  go_enter Try.func16, Try.ntmps16
  go_wp2_with fail
  go_loopw [6, 7, 25] (fun u a i wr => ∃ k : Nat, k ≤ N ∧ i = .int .i64 k ∧ a = .int .i64 (offs os k) ∧ Hid (LdB os w k u wr)) (fun _ _ i _ => N - (intOf i).toNat)
  case atStart => exact ⟨0, Nat.zero_le _, rfl, rfl, ⟨Own.nil, Below.refl _ _, fun j hj => absurd hj (by omega)⟩⟩
  case round =>
    obtain ⟨k, hk, rfl, rfl, hJ⟩ := hrel
    have hof := offs_le k (by omega) hJ.out.ok
    by_cases hlt : k < N
    · obtain ⟨b, off, rfl, hb, x0, x1, x2, x3⟩ := (HV.out.2.1.below hJ.out.below hB).raw hlt
      have hVk := HV.out.2.2 k hlt
      have hfl : oFault (nthG os k) = hFault (nthG raws k).rn (nthG raws k).bn (nthG raws k).t (nthG raws k).f := by unfold oFault; rw [hVk.tag, hVk.free, ← hVk.refs.1, ← hVk.body.1]
      have hlg : oLong (nthG os k) = 1 + (nthG raws k).rn + (nthG raws k).bn := by unfold oLong; rw [← hVk.refs.1, ← hVk.body.1]
      have hstep := offs_step (os := os) (k := k) (by omega)
      rw [hlg] at hstep
      have HH := Lib.hid (fun wx => headOf_any (nthG raws k) wx (HS.out k hlt).1 (HS.out k hlt).2)
      have HFL := Lib.hid hfl
      clear hfl hlg hVk
      generalize nthG raws k = r at *
      obtain ⟨t, ra, rn, rc, ba, bn, bc, f⟩ := r
      simp only at x0 x1 x2 x3 HH HFL hstep
      have HFA := Lib.hid (fun wx => headFault_any rn bn t f wx)
      have ba1 := (Below.refl _ wr).alloc (Nat.le_refl _) (.cells #[.int .i64 t, .slice ra rn rc, .slice ba bn bc, .bool f] 41)
      have BX := Lib.hid (Box.new wr 41 #[.int .i64 t, .slice ra rn rc, .slice ba bn bc, .bool f])
      have HBA := Lib.hid ba1
      clear ba1
      have HST := Lib.hid hstep
      clear hstep
      obtain ⟨a, hoa⟩ : ∃ a, offs os k = a := ⟨_, rfl⟩
      rw [hoa] at hof HST ⊢
      have HOA := Lib.hid hoa
      clear hoa
      by_cases hz : hFault rn bn t f = 0
      · obtain ⟨f1, f2, f3, f4, f5, f6⟩ := hFault_ok hz
        have HLo := Lib.hid (fun wx => headLong_any rn bn t f wx (by omega) (by omega) (by omega) (by omega))
        rw [hz] at HFA
        have HOK : Hid (∀ j, j < k + 1 → oFault (nthG os j) = 0) := fun j hj => by
          rcases Nat.lt_succ_iff_lt_or_eq.1 hj with h | h
          · exact hJ.out.ok j h
          · rw [h, HFL.out]; exact hz
        clear hz f3 f4 f6
        go_wp2_with fail
        refine (HH.out _).mono ?_
        rintro e w3 ⟨rfl, b3⟩
        have HB3 := Lib.hid (HBA.out.trans (b3.mono HBA.out.size))
        have BX3 := Lib.hid (BX.out.below b3 BX.out.lt)
        clear b3
        go_wp2_with fail
        refine (HFA.out _).mono ?_
        rintro e w4 ⟨rfl, b4⟩
        have HB4 := Lib.hid (HB3.out.trans (b4.mono HB3.out.size))
        have BX4 := Lib.hid (BX3.out.below b4 BX3.out.lt)
        clear b4
        obtain ⟨v', w5, hrun, hO', hG'⟩ := (hJ.out.own.below HB4.out).pushG (P := Try.prog) (t := 23) (ty := 23) Try.underlying23 i64_info2 (by omega) (x := (a : Int)) (wf_i64.2 (by omega)) (by rw [offList_len]; omega) (Nat.le_trans hJ.out.below.size HB4.out.size)
        have hne : u6.ownBlock ≠ some wr.heap.size := fun e => by have := hJ.out.own.rowLt _ e; omega
        have hb5 := BX4.out.grew hG' hne
        have y0 : w5.cell? ⟨wr.heap.size, 0, none⟩ = some (.int .i64 t) := hb5.1.cell 0
        have y1 : w5.cell? ⟨wr.heap.size, 1, none⟩ = some (.slice ra rn rc) := hb5.1.cell 1
        have y2 : w5.cell? ⟨wr.heap.size, 2, none⟩ = some (.slice ba bn bc) := hb5.1.cell 2
        have y3 : w5.cell? ⟨wr.heap.size, 3, none⟩ = some (.bool f) := hb5.1.cell 3
        have HO5 : Hid (Own .i64 3 w5 w.heap.size v' (offList os (k + 1))) := Lib.hid (by rw [offList_step, HOA.out]; exact hO')
        have hgr := (Grew.of_below HB4.out u6).trans hG'
        have HB5 := Lib.hid (hJ.out.below.trans (hgr.below hJ.out.below.size hJ.out.own.row))
        have HR := Lib.hid hrun
        clear hrun hO' hG' hne hb5 hgr
        go_wp2_with (at_builtin; refine wpList_append_run rfl (.tmp 35) (.tmp 37) 23 rfl rfl rfl HR.out ?_)
        refine (HH.out _).mono ?_
        rintro e w6 ⟨rfl, b6⟩
        have HO6 := Lib.hid (HO5.out.below b6)
        have HB6 := Lib.hid (HB5.out.trans (b6.mono HB5.out.size))
        clear b6 y0 y1 y2 y3
        go_wp2_with fail
        refine (HLo.out _).mono ?_
        rintro e w7 ⟨rfl, b7⟩
        have HO7 := Lib.hid (HO6.out.below b7)
        have HB7 := Lib.hid (HB6.out.trans (b7.mono HB6.out.size))
        clear b7
        have hstep' : ((offs os (k + 1) : Nat) : Int) = (a : Int) + (1 + rn + bn) := by rw [HST.out]; omega
        have HST' := Lib.hid hstep'
        clear hstep'
        go_wp2
        go_roundw
        case rel => exact ⟨k + 1, by omega, by go_num, by rw [HST'.out], ⟨HO7.out, HB7.out, HOK.out⟩⟩
        case measure => simp [intOf]; omega
      · have hbz : (hFault rn bn t f != 0) = true := by simpa using hz
        have HPE : Hid (layErr os n = hFault rn bn t f) := Lib.hid (by
          have h1 := fault_at (os := os) (k := k) (by rw [hos]; exact hlt) hJ.out.ok (by rw [HFL.out]; exact hz)
          rw [HFL.out] at h1
          have h2 : pErr os n = hFault rn bn t f := by rw [pErr_fault (by rw [h1]; exact hz), h1]
          rw [layErr_place hn (by rw [h2]; exact hz), h2])
        have HZ := Lib.hid hz
        clear hz
        generalize hFault rn bn t f = E at *
        go_wp2_with fail
        refine (HH.out _).mono ?_
        rintro e w3 ⟨rfl, b3⟩
        have HB3 := Lib.hid (HBA.out.trans (b3.mono HBA.out.size))
        clear b3
        go_wp2_with fail
        refine (HFA.out _).mono ?_
        rintro e w4 ⟨rfl, b4⟩
        have HB4 := Lib.hid (hJ.out.below.trans ((HB3.out.trans (b4.mono HB3.out.size)).mono hJ.out.below.size))
        clear b4
        go_wp2
        go_ret2
        exact ⟨HB4.out, _, _, _, by rw [HPE.out]; rfl, Nat.le_refl _, .inl ⟨by rw [HPE.out]; exact HZ.out, rfl⟩⟩
    · obtain rfl : k = N := by omega
      have HFZ := Lib.hid (fault_ok (os := os) (fun j hj => hJ.out.ok j (by rw [hos] at hj; exact hj)))
      have hge := offs_ge (os := os) k (by omega)
      by_cases hfull : n < offs os k
      · have HPE : Hid (layErr os n = 7) := Lib.hid (by
          have h2 := pErr_full (n := n) HFZ.out (by rw [hos]; exact hfull)
          rw [layErr_place hn (by rw [h2]; decide), h2])
        have hf' : (n : Int) < (offs os k : Nat) := by omega
        generalize offs os k = a at *
        go_wp2
        go_ret2
        exact ⟨hJ.out.below, _, _, _, by rw [HPE.out]; rfl, Nat.le_refl _, .inl ⟨by rw [HPE.out]; decide, rfl⟩⟩
      · have htot : offs os k ≤ n := by omega
        have HPZ := Lib.hid (pErr_ok HFZ.out (by rw [hos]; exact htot))
        have hO5 := hJ.out.own
        obtain ⟨Ab, cb, rfl, _, hAb⟩ := hO5.arr
        rw [offList_len] at hAb ⊢
        have HAb := Lib.hid hAb
        have HB5 := Lib.hid hJ.out.below
        have HOK := Lib.hid hJ.out.ok
        clear hO5 hAb hJ hlt
        obtain ⟨w5, hw5⟩ : ∃ w5, w5 = wr := ⟨_, rfl⟩
        rw [← hw5] at HAb HB5 ⊢
        clear hw5
        obtain ⟨tot, ht⟩ : ∃ t, offs os k = t := ⟨_, rfl⟩
        rw [ht] at htot hge hfull ⊢
        have HT := Lib.hid ht
        clear ht
        have hfull' : ¬ (n : Int) < (tot : Nat) := by omega
        go_wp2_with fail
        go_loopw [11, 50] (fun u i wr => ∃ k' : Nat, k' ≤ k ∧ i = .int .i64 k' ∧ Hid (LdW os n w5 k' u wr)) (fun _ i _ => k - (intOf i).toNat)
        case atStart => exact ⟨0, by omega, rfl, ⟨by simpa using Own.nil, Below.refl _ _, fun j hj => absurd hj (by omega)⟩⟩
        case round =>
          obtain ⟨k', hk', rfl, hJ2⟩ := hrel
          generalize wr = W0 at hJ2 ⊢
          by_cases hlt : k' < k
          · have hb05 : Below w.heap.size w W0 := HB5.out.trans (hJ2.out.below.mono HB5.out.size)
            obtain ⟨b, off, rfl, hb, x0, x1, x2, x3⟩ := (HV.out.2.1.below hb05 hB).raw hlt
            have hVk := (HV.out.2.2 k' hlt)
            have hz : hFault (nthG raws k').rn (nthG raws k').bn (nthG raws k').t (nthG raws k').f = 0 := by
              rw [hVk.tag, hVk.free, ← hVk.refs.1, ← hVk.body.1]; exact HOK.out k' hlt
            have hfo := hFault_ok hz
            have HH := Lib.hid (fun wx => headOf_any (nthG raws k') wx (HS.out k' hlt).1 (HS.out k' hlt).2)
            have HWD := Lib.hid (fun wx => headWord_any (nthG raws k').rn (nthG raws k').bn (nthG raws k').t (nthG raws k').f wx hz)
            have hwe : hWord (nthG raws k').rn (nthG raws k').bn (nthG raws k').t (nthG raws k').f = hWord (nthG os k').2.1.length (nthG os k').2.2.1.length (nthG os k').1 (nthG os k').2.2.2 := by
              rw [hVk.tag, hVk.free, hVk.refs.1, hVk.body.1]
            rw [hwe] at HWD
            have hwf := hWord_wf (show oFault (nthG os k') = 0 from HOK.out k' hlt)
            have HVK := Lib.hid hVk
            have HRN : Hid ((nthG os k').2.1.length = (nthG raws k').rn) := hVk.refs.1
            have hrn : (nthG raws k').rn ≤ 256 := by omega
            have hbn : (nthG raws k').bn ≤ 256 := by omega
            have HOBJ := Lib.hid (fun (j : Nat) (hj : j < k) => (HV.out.2.2 j hj).free)
            have hpl : ((os.take k').flatMap (obWords (pMap os n os.length))).length ≤ 100000 := by
              rw [flat_words_len]
              have h1 := offs_le (os := os) k' (by omega) (fun j hj => HOK.out j (by omega))
              unfold offs at h1
              omega
            have HPL := Lib.hid hpl
            clear hVk hz hfo hwe hpl
            obtain ⟨V0, hV0⟩ : ∃ V, hWord (nthG os k').2.1.length (nthG os k').2.2.1.length (nthG os k').1 (nthG os k').2.2.2 = V := ⟨_, rfl⟩
            have HV0 := Lib.hid hV0
            rw [hV0] at HWD hwf
            clear hV0
            obtain ⟨r, hr⟩ : ∃ r, nthG raws k' = r := ⟨_, rfl⟩
            rw [hr] at x0 x1 x2 x3 HH HWD HVK HRN hrn hbn
            clear hr
            obtain ⟨t, ra, rn, rc, ba, bn, bc, fr⟩ := r
            simp only at x0 x1 x2 x3 HH HWD HRN hrn hbn
            have ba1 := (Below.refl _ W0).alloc (Nat.le_refl _) (.cells #[.int .i64 t, .slice ra rn rc, .slice ba bn bc, .bool fr] 41)
            have BX := Lib.hid (Box.new W0 41 #[.int .i64 t, .slice ra rn rc, .slice ba bn bc, .bool fr])
            have HBA := Lib.hid ba1
            have HB05 := Lib.hid hb05
            clear ba1 hb05
            go_wp2_with fail
            refine (HH.out _).mono ?_
            rintro e w3 ⟨rfl, b3⟩
            have HB3 := Lib.hid (HBA.out.trans (b3.mono HBA.out.size))
            have BX3 := Lib.hid (BX.out.below b3 BX.out.lt)
            clear b3 x0 x1 x2 x3
            go_wp2_with fail
            refine (HWD.out _).mono ?_
            rintro e w4 ⟨rfl, b4⟩
            have HB4 := Lib.hid (HB3.out.trans (b4.mono HB3.out.size))
            have BX4 := Lib.hid (BX3.out.below b4 BX3.out.lt)
            clear b4
            obtain ⟨v', w6, hrun, hO', hG'⟩ := (hJ2.out.own.below HB4.out).pushG (P := Try.prog) (t := 22) (ty := 22) Try.underlying22 u64_info (by omega) (x := V0) (wf_u64.2 (by omega)) (by have := HPL.out; omega) (Nat.le_trans hJ2.out.below.size HB4.out.size)
            have hne : u11.ownBlock ≠ some W0.heap.size := fun e => by have := hJ2.out.own.rowLt _ e; omega
            have hb6 := BX4.out.grew hG' hne
            have hI : AddO (pMap os n os.length) (nthG os k') W0 u11 ((os.take k').flatMap (obWords (pMap os n os.length))) w5.heap.size W0.heap.size #[.int .i64 t, .slice ra rn rc, .slice ba bn bc, .bool fr] 0 v' w6 :=
              ⟨by rw [HV0.out]; simpa using hO', (Grew.of_below HB4.out _).trans hG', fun j hj => absurd hj (by omega), hb6.1, hb6.2⟩
            have HI := Lib.hid hI
            have HR := Lib.hid hrun
            have y1 : w6.cell? ⟨W0.heap.size, 1, none⟩ = some (.slice ra rn rc) := hb6.1.cell 1
            clear hrun hO' hG' hne hb6 hI
            go_wp2_with (at_builtin; refine wpList_append_run rfl (.tmp 54) (.tmp 58) 22 rfl rfl rfl HR.out ?_)
            clear y1
            go_loopw [11, 63] (fun u i wx => ∃ i' : Nat, i' ≤ rn ∧ i = .int .i64 i' ∧ Hid (AddO (pMap os n os.length) (nthG os k') W0 u11 ((os.take k').flatMap (obWords (pMap os n os.length))) w5.heap.size W0.heap.size #[.int .i64 t, .slice ra rn rc, .slice ba bn bc, .bool fr] i' u wx)) (fun _ i _ => rn - (intOf i).toNat)
            case atStart => exact ⟨0, by omega, rfl, HI⟩
            case round =>
              obtain ⟨i, hi, rfl, hL⟩ := hrel
              clear HI HR HB3 HB4 BX3 BX4 BX HBA
              have hb5 : Below w5.heap.size w5 wr := hJ2.out.below.trans (hL.out.grew.below hJ2.out.below.size hJ2.out.own.row)
              have hb0 : Below w.heap.size w wr := HB5.out.trans (hb5.mono HB5.out.size)
              have hVw := HVK.out.below hb0 hB
              by_cases hil : i < rn
              · obtain ⟨b6, o6, rfl, _, hcs⟩ := hVw.refs.2.2 (by show 0 < rn; omega)
                have hc := hcs i hil
                have hxm : nth (nthG os k').2.1 i ∈ (nthG os k').2.1 := by rw [nth_get _ _ (by rw [HRN.out]; exact hil)]; exact List.getElem_mem _
                have hxw := hVw.refs.2.1 _ hxm
                rw [wf_i64] at hxw
                have htk : (nthG os k').2.1.take (i + 1) = (nthG os k').2.1.take i ++ [nth (nthG os k').2.1 i] := by
                  rw [nth_get _ _ (by rw [HRN.out]; exact hil), List.take_succ_eq_append_getElem]
                have HTK := Lib.hid htk
                have HXM := Lib.hid hxm
                clear hcs hxm htk hVw
                obtain ⟨X, hX⟩ : ∃ X, nth (nthG os k').2.1 i = X := ⟨_, rfl⟩
                have HX := Lib.hid hX
                rw [hX] at hc HXM hxw
                clear hX
                by_cases c1 : X < -1
                · have HE := Lib.hid (fit_none hn HPZ.out (k := k') (by rw [hos]; exact hlt) (x := X) HXM.out (pMap_bad (.inl c1)))
                  have HB9 := Lib.hid (HB5.out.trans (hb5.mono HB5.out.size))
                  clear hb5
                  go_wp2
                  go_ret2
                  exact ⟨HB9.out, _, _, _, by rw [HE.out]; rfl, Nat.le_refl _, .inl ⟨by rw [HE.out]; decide, rfl⟩⟩
                by_cases c2 : (k : Int) ≤ X
                · have HE := Lib.hid (fit_none hn HPZ.out (k := k') (by rw [hos]; exact hlt) (x := X) HXM.out (pMap_bad (.inr (.inl (by rw [hos]; exact c2)))))
                  have HB9 := Lib.hid (HB5.out.trans (hb5.mono HB5.out.size))
                  clear hb5
                  go_wp2
                  go_ret2
                  exact ⟨HB9.out, _, _, _, by rw [HE.out]; rfl, Nat.le_refl _, .inl ⟨by rw [HE.out]; decide, rfl⟩⟩
                by_cases c3 : X = -1
                · have HPX : pMap os n os.length X = some 0 := by rw [c3]; exact pMap_null _
                  obtain ⟨v', w8, hrun, hO', hG'⟩ := hL.out.own.pushG (P := Try.prog) (t := 22) (ty := 22) Try.underlying22 u64_info (by omega) (x := 0) (wf_u64.2 (by omega)) (by have := HPL.out; rw [List.length_append, List.length_cons, List.length_map, List.length_take]; omega) (Nat.le_trans hJ2.out.below.size hL.out.grew.size)
                  have hN := hL.out.next hG' (by rw [HX.out, HPX]; rfl) (by rw [HTK.out, List.map_append, List.map_cons, List.map_nil, HX.out, HPX]; simpa using hO')
                  have HN := Lib.hid hN
                  have HR := Lib.hid hrun
                  clear hrun hO' hG' hN HPX
                  clear hb5 hb0
                  go_wp2_with (at_builtin; refine wpList_append_run rfl (.tmp 94) (.tmp 96) 22 rfl rfl rfl HR.out ?_)
                  go_roundw
                  case rel => exact ⟨i + 1, by omega, by go_num, HN⟩
                  case measure => simp [intOf]; omega
                · obtain ⟨j, rfl⟩ := Int.eq_ofNat_of_zero_le (show 0 ≤ X by omega)
                  have hjk : j < k := by omega
                  have hfj := HOBJ.out j hjk
                  obtain ⟨b7, o7, e7, _, z0, z1, z2, z3⟩ := (HV.out.2.1.below hb0 hB).raw hjk
                  injection e7 with e7
                  injection e7 with e7 e8
                  subst e7 e8
                  rw [hfj] at z3
                  clear z0 z1 z2
                  have g1 : (0 : Int) ≤ (j : Int) := by omega
                  have g2 : (j : Int) < (k : Int) := by omega
                  cases hfr : (nthG os j).2.2.2
                  · have HPX : pMap os n os.length (j : Int) = some ((offs os j : Int) + 1) := pMap_hit _ (by rw [hos, HT.out]; exact htot) (Nat.le_refl _) (by rw [hos]; exact hjk) hfr
                    have hofj : offs os j ≤ 256 := by
                      have h1 := offs_mono (os := os) (i := j) (j := k) (by omega) (by omega)
                      rw [HT.out] at h1
                      omega
                    obtain ⟨b8, o8, rfl, _, hcs8⟩ := (HAb.out.below hb5 (Nat.le_refl _)).2.2 (by omega)
                    have hc8 := hcs8 j hjk
                    rw [offList_nth hjk] at hc8
                    clear hcs8
                    rw [hfr] at z3
                    obtain ⟨v', w8, hrun, hO', hG'⟩ := hL.out.own.pushG (P := Try.prog) (t := 22) (ty := 22) Try.underlying22 u64_info (by omega) (x := (offs os j : Int) + 1) (wf_u64.2 (by omega)) (by have := HPL.out; rw [List.length_append, List.length_cons, List.length_map, List.length_take]; omega) (Nat.le_trans hJ2.out.below.size hL.out.grew.size)
                    have hN := hL.out.next hG' (by rw [HX.out, HPX]; rfl) (by rw [HTK.out, List.map_append, List.map_cons, List.map_nil, HX.out, HPX]; simpa using hO')
                    have HN := Lib.hid hN
                    have HR := Lib.hid hrun
                    clear hrun hO' hG' hN HPX
                    clear hfr hfj hb5 hb0
                    generalize offs os j = OJ at *
                    go_wp2_with (at_builtin; refine wpList_append_run rfl (.tmp 94) (.tmp 96) 22 rfl rfl rfl HR.out ?_)
                    go_roundw
                    case rel => exact ⟨i + 1, by omega, by go_num, HN⟩
                    case measure => simp [intOf]; omega
                  · have HE := Lib.hid (fit_none hn HPZ.out (k := k') (by rw [hos]; exact hlt) (x := (j : Int)) HXM.out (pMap_bad (.inr (.inr ⟨j, rfl, hfr⟩))))
                    have HB9 := Lib.hid (HB5.out.trans (hb5.mono HB5.out.size))
                    clear hb5
                    rw [hfr] at z3
                    clear hfr hfj
                    go_wp2
                    go_ret2
                    exact ⟨HB9.out, _, _, _, by rw [HE.out]; rfl, Nat.le_refl _, .inl ⟨by rw [HE.out]; decide, rfl⟩⟩
              · obtain rfl : i = rn := by omega
                have hO9 := hL.out.own
                rw [List.take_of_length_le (l := (nthG os k').2.1) (by rw [HRN.out]; omega)] at hO9
                obtain ⟨v', w8, hrun, hO', hG'⟩ := hO9.catG (P := Try.prog) (t := 22) (ty := 22) (c := bc) Try.underlying22 u64_info (by omega) hVw.body (by have := HPL.out; have := HRN.out; rw [List.length_append, List.length_cons, List.length_map]; show _ + bn ≤ _; omega) (Nat.le_trans hJ2.out.below.size hL.out.grew.size)
                have htk2 : os.take (k' + 1) = os.take k' ++ [nthG os k'] := by rw [nthG_get _ _ (by rw [hos]; exact hlt), List.take_succ_eq_append_getElem]
                have hfit : refsFit (pMap os n os.length) (nthG os k') = true := by
                  unfold refsFit
                  rw [List.all_eq_true]
                  intro x hx
                  obtain ⟨q, hq, rfl⟩ := List.getElem_of_mem hx
                  have := hL.out.ok q (by rw [HRN.out] at hq; exact hq)
                  rwa [nth_get _ _ hq] at this
                have hN : LdW os n w5 (k' + 1) v' w8 := ⟨by rw [htk2, List.flatMap_append, List.flatMap_cons, List.flatMap_nil, List.append_nil]; rw [List.append_assoc, List.cons_append] at hO'; exact hO', hJ2.out.below.trans ((hL.out.grew.trans hG').below hJ2.out.below.size hJ2.out.own.row), fun j hj => by
                  rcases Nat.lt_succ_iff_lt_or_eq.1 hj with h | h
                  · exact hJ2.out.ok j h
                  · rw [h]; exact hfit⟩
                have HN := Lib.hid hN
                have HR := Lib.hid hrun
                have y2 : wr.cell? ⟨W0.heap.size, 2, none⟩ = some (.slice ba bn bc) := hL.out.box.cell 2
                clear hrun hO' hG' hO9 htk2 hfit hN hVw
                go_wp2_with (at_builtin; refine wpList_append_run rfl (.tmp 99) (.tmp 101) 22 rfl rfl rfl HR.out ?_)
                go_roundw
                case rel => exact ⟨k' + 1, by omega, by go_num, HN⟩
                case measure => simp [intOf]; omega
          · obtain hke : k' = k := by omega
            have HE := Lib.hid (fit_all hn HPZ.out (fun j hj => hJ2.out.ok j (by rw [hos] at hj; omega)))
            have hO8 := hJ2.out.own
            rw [List.take_of_length_le (by rw [hos]; omega)] at hO8
            have hPl : (os.flatMap (obWords (pMap os n os.length))).length = tot := by
              rw [flat_words_len, ← HT.out]
              unfold offs
              rw [List.take_of_length_le (by omega)]
            have HB8 := Lib.hid hJ2.out.below
            have HO8 := Lib.hid hO8
            clear hO8 hJ2 hk'
            by_cases hless : tot < n
            · have hless' : (tot : Int) < n := by omega
              have HFH := Lib.hid (freeHeadL_any (n - tot) W0 (by omega) (by omega))
              have e1 : (n : Int) - (tot : Int) = ((n - tot : Nat) : Int) := by omega
              have e2 : IntKind.i64.wrap ((n : Int) - (tot : Int)) = ((n - tot : Nat) : Int) := by rw [e1]; exact IntWalk.i64_in _ (by omega)
              have hfin : (os.flatMap (obWords (pMap os n os.length)) ++ [hWord 0 ((n - tot - 1 : Nat) : Int) 0 true]) ++ List.replicate (n - (tot + 1)) 0 = layWords os n := by
                unfold layWords layObs
                rw [hos, HT.out, List.flatMap_append]
                unfold restObs
                rw [if_neg (by omega)]
                simp [obWords, show n - (tot + 1) = n - tot - 1 by omega]
              have hwf9 : 0 ≤ hWord 0 ((n - tot - 1 : Nat) : Int) 0 true ∧ hWord 0 ((n - tot - 1 : Nat) : Int) 0 true ≤ 18446744073709551615 := by unfold hWord; simp; omega
              obtain ⟨H9, hH9⟩ : ∃ H, hWord 0 ((n - tot - 1 : Nat) : Int) 0 true = H := ⟨_, rfl⟩
              rw [hH9] at hfin hwf9 HFH
              clear hH9
              obtain ⟨P', hP'⟩ : ∃ P, P = os.flatMap (obWords (pMap os n os.length)) ++ [H9] := ⟨_, rfl⟩
              have hpp : P'.length = tot + 1 := by rw [hP', List.length_append, hPl]; rfl
              rw [← hP'] at hfin
              go_wp2_with fail
              refine HFH.out.mono ?_
              rintro e w9 ⟨rfl, b9⟩
              obtain ⟨v', w8, hrun, hO', hG'⟩ := (HO8.out.below b9).pushG (P := Try.prog) (t := 22) (ty := 22) Try.underlying22 u64_info (by omega) (x := H9) (wf_u64.2 hwf9) (by rw [hPl]; omega) (Nat.le_trans HB8.out.size b9.size)
              have hb8 := HB8.out.trans (((Grew.of_below b9 u11).trans hG').below HB8.out.size HO8.out.row)
              rw [← hP'] at hO'
              have HPO := Lib.hid hO'
              have HPB := Lib.hid hb8
              have HR := Lib.hid hrun
              obtain ⟨p, hp⟩ : ∃ p, p = tot + 1 := ⟨_, rfl⟩
              rw [← hp] at hpp hfin
              have hpn : p ≤ n := by omega
              have HPP := Lib.hid hpp
              have HFIN := Lib.hid hfin
              clear hrun hO' hG' hb8 hP' hpp hfin b9 e1 e2 hp HFH hwf9
              go_wp2_with (at_builtin; refine wpList_append_run rfl (.tmp 107) (.tmp 112) 22 rfl rfl rfl HR.out ?_)
              go_loopw [11] (fun u wr => ∃ j : Nat, p + j ≤ n ∧ Hid (Own .u64 47 wr w5.heap.size u (P' ++ List.replicate j 0)) ∧ Hid (Below w5.heap.size w5 wr)) (fun u _ => n - sliceLen u)
              case atStart => exact ⟨0, by omega, by simpa using HPO, HPB⟩
              case round =>
                obtain ⟨j, hj, hO9, hB9⟩ := hrel
                clear HPO HPB
                obtain ⟨A9, c9, rfl, hc9, hA9⟩ := hO9.out.arr
                have hL9 : (P' ++ List.replicate j (0 : Int)).length = p + j := by simp [HPP.out]
                rw [hL9] at hc9 hA9 hO9
                rw [hL9]
                by_cases hlt9 : p + j < n
                · obtain ⟨v', w8, hrun, hO', hG'⟩ := hO9.out.pushG (P := Try.prog) (t := 22) (ty := 22) Try.underlying22 u64_info (by omega) (x := 0) (by decide) (by rw [hL9]; omega) hB9.out.size
                  have hb8 := hG'.below hB9.out.size hO9.out.row
                  rw [List.append_assoc, show List.replicate j (0 : Int) ++ [0] = List.replicate (j + 1) 0 by rw [List.replicate_succ']] at hO'
                  obtain ⟨A8, c8, rfl, _, _⟩ := hO'.arr
                  have HO8 := Lib.hid hO'
                  have HB8 := Lib.hid (hB9.out.trans hb8)
                  have HR := Lib.hid hrun
                  have hL8 : (P' ++ List.replicate (j + 1) (0 : Int)).length = p + j + 1 := by simp [HPP.out]; omega
                  rw [hL8] at HO8 HR
                  clear hrun hO' hG' hb8 hA9 hO9 hB9
                  have hlt9' : ((p + j : Nat) : Int) < n := by omega
                  go_wp2_with (at_builtin; refine wpList_append_run rfl (.tmp 118) (.tmp 119) 22 rfl rfl rfl HR.out ?_)
                  go_roundw
                  case rel => exact ⟨j + 1, by omega, HO8, HB8⟩
                  case measure => simp [sliceLen]; omega
                · have hpn : p + j = n := by omega
                  have HA9 : Hid (Arr .u64 wr wr.heap.size A9 n (layWords os n)) := Lib.hid (by rw [← HFIN.out, show n - p = j by omega, ← hpn]; exact hA9)
                  have HLW : Hid ((layWords os n).length = n) := Lib.hid (by rw [← HFIN.out]; simp [HPP.out]; omega)
                  rw [hpn] at hc9
                  rw [hpn]
                  have HB8 := Lib.hid (HB5.out.trans (hB9.out.mono HB5.out.size))
                  clear hA9 hO9 hB9 hpn hlt9 hL9
                  go_wp2
                  go_ret2
                  exact ⟨HB8.out, _, _, _, by rw [HE.out]; rfl, hc9, .inr ⟨HE.out, HLW.out.symm, HA9.out⟩⟩
            · have hless' : ¬ (tot : Int) < n := by omega
              have hfin : os.flatMap (obWords (pMap os n os.length)) ++ List.replicate (n - tot) 0 = layWords os n := by
                unfold layWords layObs
                rw [hos, HT.out, List.flatMap_append, show n - tot = 0 by omega]
                simp [restObs]
              obtain ⟨P', hP'⟩ : ∃ P, P = os.flatMap (obWords (pMap os n os.length)) := ⟨_, rfl⟩
              rw [← hP'] at hfin HO8 hPl
              have HPO := Lib.hid HO8.out
              have HPB := Lib.hid HB8.out
              obtain ⟨p, hp⟩ : ∃ p, p = tot := ⟨_, rfl⟩
              rw [← hp] at hPl hfin
              have hpn : p ≤ n := by omega
              have HPP := Lib.hid hPl
              have HFIN := Lib.hid hfin
              clear hP' hPl hfin hp HO8
              go_wp2_with fail
              go_loopw [11] (fun u wr => ∃ j : Nat, p + j ≤ n ∧ Hid (Own .u64 47 wr w5.heap.size u (P' ++ List.replicate j 0)) ∧ Hid (Below w5.heap.size w5 wr)) (fun u _ => n - sliceLen u)
              case atStart => exact ⟨0, by omega, by simpa using HPO, HPB⟩
              case round =>
                obtain ⟨j, hj, hO9, hB9⟩ := hrel
                clear HPO HPB
                obtain ⟨A9, c9, rfl, hc9, hA9⟩ := hO9.out.arr
                have hL9 : (P' ++ List.replicate j (0 : Int)).length = p + j := by simp [HPP.out]
                rw [hL9] at hc9 hA9 hO9
                rw [hL9]
                by_cases hlt9 : p + j < n
                · obtain ⟨v', w8, hrun, hO', hG'⟩ := hO9.out.pushG (P := Try.prog) (t := 22) (ty := 22) Try.underlying22 u64_info (by omega) (x := 0) (by decide) (by rw [hL9]; omega) hB9.out.size
                  have hb8 := hG'.below hB9.out.size hO9.out.row
                  rw [List.append_assoc, show List.replicate j (0 : Int) ++ [0] = List.replicate (j + 1) 0 by rw [List.replicate_succ']] at hO'
                  obtain ⟨A8, c8, rfl, _, _⟩ := hO'.arr
                  have HO8 := Lib.hid hO'
                  have HB8 := Lib.hid (hB9.out.trans hb8)
                  have HR := Lib.hid hrun
                  have hL8 : (P' ++ List.replicate (j + 1) (0 : Int)).length = p + j + 1 := by simp [HPP.out]; omega
                  rw [hL8] at HO8 HR
                  clear hrun hO' hG' hb8 hA9 hO9 hB9
                  have hlt9' : ((p + j : Nat) : Int) < n := by omega
                  go_wp2_with (at_builtin; refine wpList_append_run rfl (.tmp 118) (.tmp 119) 22 rfl rfl rfl HR.out ?_)
                  go_roundw
                  case rel => exact ⟨j + 1, by omega, HO8, HB8⟩
                  case measure => simp [sliceLen]; omega
                · have hpn : p + j = n := by omega
                  have HA9 : Hid (Arr .u64 wr wr.heap.size A9 n (layWords os n)) := Lib.hid (by rw [← HFIN.out, show n - p = j by omega, ← hpn]; exact hA9)
                  have HLW : Hid ((layWords os n).length = n) := Lib.hid (by rw [← HFIN.out]; simp [HPP.out]; omega)
                  rw [hpn] at hc9
                  rw [hpn]
                  have HB8 := Lib.hid (HB5.out.trans (hB9.out.mono HB5.out.size))
                  clear hA9 hO9 hB9 hpn hlt9 hL9
                  go_wp2
                  go_ret2
                  exact ⟨HB8.out, _, _, _, by rw [HE.out]; rfl, hc9, .inr ⟨HE.out, HLW.out.symm, HA9.out⟩⟩

theorem Laid_any (A : Option Addr) (N c B lo : Nat) (n : Int) (raws : List Raw) (os : List Ob) (w : World) (hN : N ≤ 256) (hB : B ≤ w.heap.size) (hv : ObsAt w lo B A N raws os) (hs : ∀ j, j < N → (nthG raws j).rn ≤ maxLen ∧ (nthG raws j).bn ≤ maxLen) :
    Calls Try.prog 16 #[.slice A N c, .int .i64 n] w (LayP os n w) := by
  by_cases h : n < 0 ∨ 256 < n
  · exact laid_range A N c n os w h
  · obtain ⟨q, rfl⟩ := Int.eq_ofNat_of_zero_le (show 0 ≤ n by omega)
    exact laid_in A N c q B lo raws os w (by omega) hN hB hv hs
end Go.Proofs.Ytjefbekdjgmmbaa
