/-
  Package same: Build.
-/
import Derived.Test.YtjefbekdjgmmbaaSameD
import Derived.Test.YtjefbekdjgmmbaaBackM
namespace Go.Proofs.Ytjefbekdjgmmbaa
open Go.RowKit

/-- The words of the laid objects that are not free, by their numbers; of the first 'k'. -/
def wdT (zs : List Int) (k : Nat) : Int → Option Int := fun i => if 0 ≤ i ∧ i < k ∧ vF (nth zs (st zs i.toNat)) = false then some (st zs i.toNat : Int) else none
section
variable {zs : List Int} {k : Nat}
theorem wdT_zero : wdT zs 0 = fun _ => none := by
  funext i
  unfold wdT
  rw [if_neg (by omega)]
theorem wdT_yes (h : vF (nth zs (st zs k)) = false) : wdT zs (k + 1) = put (wdT zs k) k (st zs k) := by
  funext i
  unfold wdT put
  by_cases e : i = (k : Int)
  · subst e
    rw [if_pos (by rw [Int.toNat_natCast]; exact ⟨by omega, by omega, h⟩), if_pos rfl, Int.toNat_natCast]
  · rw [if_neg e]
    have : (0 ≤ i ∧ i < (k + 1 : Nat) ∧ vF (nth zs (st zs i.toNat)) = false) ↔ (0 ≤ i ∧ i < k ∧ vF (nth zs (st zs i.toNat)) = false) := ⟨fun ⟨a, b, c⟩ => ⟨a, by omega, c⟩, fun ⟨a, b, c⟩ => ⟨a, by omega, c⟩⟩
    simp only [this]
theorem wdT_no (h : vF (nth zs (st zs k)) = true) : wdT zs (k + 1) = wdT zs k := by
  funext i
  unfold wdT
  by_cases e : i = (k : Int)
  · subst e
    rw [if_neg (by rw [Int.toNat_natCast, h]; simp), if_neg (by omega)]
  · have : (0 ≤ i ∧ i < (k + 1 : Nat) ∧ vF (nth zs (st zs i.toNat)) = false) ↔ (0 ≤ i ∧ i < k ∧ vF (nth zs (st zs i.toNat)) = false) := ⟨fun ⟨a, b, c⟩ => ⟨a, by omega, c⟩, fun ⟨a, b, c⟩ => ⟨a, by omega, c⟩⟩
    simp only [this]
end
/-- Of all of them: where the object begins. -/
theorem wdT_all {os : List Ob} {n : Nat} (h : layErr os (n : Int) = 0) : wdT (layWords os n) (begins (layWords os n) 0).length = fun i => if atB os i = true then some (offs os i.toNat : Int) else none := by
  obtain ⟨h1, h2, h3, h4⟩ := lay_told h
  obtain ⟨hn, hp, _⟩ := lay_zero h
  have hst := (begins_all (f := pMap os n os.length) (lay_faults hn hp)).2.2
  have hlen : (layObs os n).length = os.length + (restObs (n - offs os os.length)).length := by unfold layObs; rw [List.length_append]
  funext i
  unfold wdT
  by_cases hi : 0 ≤ i ∧ i < ((layObs os n).length : Int)
  · obtain ⟨j, rfl⟩ := Int.eq_ofNat_of_zero_le hi.1
    rw [Int.toNat_natCast]
    have hj : j < (layObs os n).length := by omega
    have hf : vF (nth (layWords os n) (st (layWords os n) j)) = (nthG (layObs os n) j).2.2.2 := by rw [← h4 j hj]; rfl
    by_cases hjo : j < os.length
    · have he : nthG (layObs os n) j = nthG os j := by unfold layObs; exact nthG_app_left _ _ hjo
      rw [he] at hf
      have ho : st (layWords os n) j = offs os j := by
        rw [show st (layWords os n) j = offs (layObs os n) j from hst j hj]
        exact lay_offs (by omega)
      rw [hf, ho]
      unfold atB
      rw [Int.toNat_natCast]
      cases hq : (nthG os j).2.2.2
      · rw [if_pos ⟨by omega, by omega, rfl⟩, if_pos (by simp; omega)]
      · rw [if_neg (by simp), if_neg (by simp)]
    · have he : (nthG (layObs os n) j).2.2.2 = true := by
        unfold layObs at hj ⊢
        rw [nthG_app_right _ _ (by omega) (by rw [← List.length_append]; exact hj)]
        have hm : nthG (restObs (n - offs os os.length)) (j - os.length) ∈ restObs (n - offs os os.length) := by
          rw [nthG_get _ _ (by rw [List.length_append] at hj; omega)]
          exact List.getElem_mem _
        generalize nthG (restObs (n - offs os os.length)) (j - os.length) = o at *
        unfold restObs at hm
        split at hm
        · cases hm
        · rw [List.mem_singleton.1 hm]
      rw [hf, he, if_neg (by simp), if_neg (by unfold atB; simp; omega)]
  · rw [if_neg (by rw [h3]; omega), if_neg]
    unfold atB
    simp only [Bool.and_eq_true, decide_eq_true_eq]
    omega
/-- What holds while the words of the laid objects are noted. -/
structure B1I (zs : List Int) (w2 : World) (gm k : Nat) (wr : World) : Prop where
  map : MapF Try.prog .i64 .i64 3 3 wr gm k (wdT zs k)
  below : Below gm w2 wr

set_option maxRecDepth 8000 in
set_option maxHeartbeats 4000000 in
theorem build_any : BuildC := by
  intro D F m c k d raws os ps n w h hn
  have b0 := (Below.refl _ w).alloc (Nat.le_refl _) (.cells #[.slice D m c, .slice F k d] 26)
  have HX := Lib.hid (Box.new w 26 #[.slice D m c, .slice F k d])
  have h1 := h.later b0
  have HL := Lib.hid (layF_any D m c (w.alloc (.cells #[.slice D m c, .slice F k d] 26)).heap.size 0 n raws os (w.alloc (.cells #[.slice D m c, .slice F k d] 26)) hn h.mz (Nat.le_refl _) h1.objs h1.lens)
  unfold LayF at HL
  have HP := Lib.hid h1.places
  have HK := Lib.hid h.kz
  have HB := Lib.hid b0
  have f0 : (w.alloc (.cells #[.slice D m c, .slice F k d] 26)).cell? ⟨w.heap.size, 0, none⟩ = some (.slice D m c) := HX.out.cell 0
  have hmm := @run_makeMap Try.prog
  clear b0 h h1
  obtain ⟨E, hE⟩ : ∃ E, layErr os n = E := ⟨_, rfl⟩
  rw [hE] at HL
  have HE := Lib.hid hE
  clear hE
  go_enter Try.func15, Try.ntmps15
  go_upto_region 1 with fail
  generalize (w.alloc (.cells #[.slice D m c, .slice F k d] 26)) = W at *
  by_cases h0 : E = 0
  · subst h0
    go_wp2_with fail
    refine HL.out.mono ?_
    rintro e w1 ⟨b1, A, q, ac, rfl, hqa, hl, _⟩
    rcases hl with ⟨hl, _⟩ | ⟨_, hq, hA⟩
    · exact absurd rfl hl
    have hnr : ¬ (n < 0 ∨ 256 < n) := fun hc => by have := HE.out; rw [layErr_range hc] at this; cases this
    obtain ⟨N, rfl⟩ := Int.eq_ofNat_of_zero_le (show 0 ≤ n by omega)
    rw [Int.toNat_natCast] at hq hA
    obtain ⟨t1, t2, t3, t4⟩ := lay_told HE.out
    have hqN : q = N := by rw [hq, t1]
    have HWA := Lib.hid (wdT_all HE.out)
    have hsp := (arErr_zero t2).1
    have hL := spList_ok hsp
    obtain ⟨ms, hms⟩ : ∃ ms, (begins (layWords os N) 0).length = ms := ⟨_, rfl⟩
    have hml : (spList (layWords os N)).length = ms := by rw [hL, List.length_map, hms]
    have hbl := begins_len (zs := layWords os N) (a := 0)
    have hms2 : ms ≤ 256 := by omega
    have HS : Hid (∀ j, j < ms → nthG (spList (layWords os N)) j = spOf (layWords os N) (st (layWords os N) j) ∧ st (layWords os N) j < 256) := fun j hj => by
      have h1 := begins_mem (st_mem (zs := layWords os N) (k := j) (by omega))
      exact ⟨by rw [hL, nthG_map _ _ _ (by omega)]; rfl, by omega⟩
    have HSP := Lib.hid (Spots_any A q ac _ w1 (by unfold maxLen; omega) hA)
    unfold SpotsP at HSP
    rw [hml, hsp] at HSP
    have HB1 := Lib.hid (bthen HB.out b1)
    have HX1 := Lib.hid (HX.out.below b1 HX.out.lt)
    have HP1 := Lib.hid (HP.out.later b1)
    have HA := Lib.hid hA
    have HQ := Lib.hid hqa
    have HQN := Lib.hid hqN
    rw [hms] at HWA
    clear b1 hqa hq hA t1 t2 t3 t4 hsp hL hms hml hbl HB HX HP HL f0 hqN
    go_wp2_with fail
    refine HSP.out.mono ?_
    rintro e w2 ⟨A2, c2, rfl, b2, _, hA2, _⟩
    have HB2 := Lib.hid (bthen HB1.out b2)
    have HX2 := Lib.hid (HX1.out.below b2 HX1.out.lt)
    have HP2 := Lib.hid (HP1.out.later b2)
    have HA1 := Lib.hid (HA.out.later b2)
    have HA2 := Lib.hid hA2
    clear b2 hA2 HB1 HX1 HP1 HA HSP
    go_wp2_with fail
    have bm : Below w2.heap.size w2 (w2.alloc (.map #[] 0)) := (Below.refl _ w2).alloc (Nat.le_refl _) _
    have HI : Hid (B1I (layWords os N) w2 w2.heap.size 0 (w2.alloc (.map #[] 0))) := ⟨by rw [wdT_zero]; exact MapF.made Try.prog .i64 .i64 3 3 w2, bm⟩
    clear bm
    generalize (w2.alloc (.map #[] 0)) = W4 at *
    obtain ⟨gm, hgm⟩ : ∃ g, w2.heap.size = g := ⟨_, rfl⟩
    have HGM := Lib.hid hgm
    rw [hgm] at HI
    rw [hgm]
    clear hgm hmm
    obtain ⟨zs, hzs⟩ : ∃ zs, layWords os N = zs := ⟨_, rfl⟩
    have HZS := Lib.hid hzs
    rw [hzs] at HI HS HWA HA2 HA1
    clear hzs
    go_loopw [38] (fun i wr => ∃ j : Nat, j ≤ ms ∧ i = .int .i64 j ∧ Hid (B1I zs w2 gm j wr)) (fun i _ => ms - (intOf i).toNat)
    case atStart => exact ⟨0, Nat.zero_le _, rfl, HI⟩
    case round =>
      obtain ⟨j, hj, rfl, hI⟩ := hrel
      clear HI
      by_cases hlt : j < ms
      · obtain ⟨hs, hs256⟩ := HS.out j hlt
        obtain ⟨b, off, rfl, _, q0, q1, q2, q3, q4⟩ := (HA2.out.below (show Below w2.heap.size w2 wr by rw [HGM.out]; exact hI.out.below) (Nat.le_refl _)).spot hlt
        rw [hs] at q0 q1 q2 q3 q4
        unfold spOf at q0 q1 q2 q3 q4
        simp only at q0 q1 q2 q3 q4
        have hba := (Below.refl _ wr).alloc (Nat.le_refl _) (.cells #[.int .i64 (st zs j), .int .i64 (vR (nth zs (st zs j))), .int .i64 (vB (nth zs (st zs j))), .int .i64 (vT (nth zs (st zs j))), .bool (vF (nth zs (st zs j)))] 80)
        have hX : B1I zs w2 gm j (wr.alloc (.cells #[.int .i64 (st zs j), .int .i64 (vR (nth zs (st zs j))), .int .i64 (vB (nth zs (st zs j))), .int .i64 (vT (nth zs (st zs j))), .bool (vF (nth zs (st zs j)))] 80)) := ⟨hI.out.map.alloc _, hI.out.below.trans (hba.mono (Nat.le_of_lt hI.out.map.lt))⟩
        have hsw : (Lit.int .i64 (st zs j : Int)).wf = true := wf_i64.2 (by omega)
        have hjw : (Lit.int .i64 (j : Int)).wf = true := wf_i64.2 (by omega)
        cases hf : vF (nth zs (st zs j))
        · rw [hf] at q4 hX
          obtain ⟨w5, hrun, hm5, hg5⟩ := hX.map.store placesT (by unfold maxLen; omega) hjw hsw
          rw [← wdT_yes hf] at hm5
          have HN : Hid (B1I zs w2 gm (j + 1) w5) := ⟨hm5, hX.below.trans (grown_below hg5 (Nat.le_refl _) (Nat.le_of_lt hX.map.lt))⟩
          clear hs hI hX hf hm5 hg5 hba
          generalize vR (nth zs (st zs j)) = R at *
          generalize vB (nth zs (st zs j)) = Bd at *
          generalize vT (nth zs (st zs j)) = T' at *
          generalize st zs j = s at *
          go_wp2
          go_roundw
          case rel => exact ⟨j + 1, by omega, by go_num, HN⟩
          case measure => simp [intOf]; omega
        · rw [hf] at q4 hX
          have HN : Hid (B1I zs w2 gm (j + 1) _) := ⟨by rw [wdT_no hf]; exact hX.map.mono (by omega), hX.below⟩
          clear hs hI hX hf hba
          generalize vR (nth zs (st zs j)) = R at *
          generalize vB (nth zs (st zs j)) = Bd at *
          generalize vT (nth zs (st zs j)) = T' at *
          generalize st zs j = s at *
          go_wp2
          go_roundw
          case rel => exact ⟨j + 1, by omega, by go_num, HN⟩
          case measure => simp [intOf]; omega
      · obtain rfl : j = ms := by omega
        have hmp := hI.out.map
        rw [HWA.out] at hmp
        have HMP := Lib.hid hmp
        have hb4 : Below w2.heap.size w2 wr := by rw [HGM.out]; exact hI.out.below
        have HB4 := Lib.hid (bthen HB2.out hb4)
        have HX4 := Lib.hid (HX2.out.below hb4 HX2.out.lt)
        have HP4 := Lib.hid (HP2.out.later hb4)
        have HA4 := Lib.hid (HA1.out.later hb4)
        clear hmp hb4 hI HB2 HX2 HP2 HA1 HA2 HS HWA HGM
        clear W4
        generalize wr = w4 at *
        have f1 : w4.cell? ⟨w.heap.size, 1, none⟩ = some (.slice F k d) := HX4.out.cell 1
        go_wp2_with fail
        go_loopw [55] (fun i wr => w4 = wr ∧ ∃ t : Nat, t ≤ k ∧ i = .int .i64 t ∧ Hid (∀ x, x < t → atB os (nth ps x) = true)) (fun i _ => k - (intOf i).toNat)
        case atStart => exact ⟨rfl, 0, Nat.zero_le _, rfl, fun x hx => absurd hx (by omega)⟩
        case round =>
          obtain ⟨rfl, t, ht, rfl, HI⟩ := hrel
          have hkk := HK.out
          by_cases hlt2 : t < k
          · obtain ⟨b, off, rfl, _, hc⟩ := HP4.out.2.2 (by omega)
            have c1 := hc t hlt2
            have htl : t < ps.length := by rw [HP4.out.1]; exact hlt2
            have hx : (Lit.int .i64 (nth ps t)).wf = true := HP4.out.2.1 _ (nth_mem htl)
            have hlk := HMP.out.lookOk placesT (x := nth ps t) hx
            by_cases hat : atB os (nth ps t) = true
            · rw [if_pos hat] at hlk
              simp only [Option.getD_some, Option.isSome_some] at hlk
              have HN : Hid (∀ x, x < t + 1 → atB os (nth ps x) = true) := fun x hx => by
                rcases Nat.lt_succ_iff_lt_or_eq.1 hx with h | h
                · exact HI.out x h
                · rw [h]; exact hat
              clear hc hx htl hat HI
              generalize (offs os (nth ps t).toNat : Int) = V at *
              generalize nth ps t = X at *
              go_wp2
              go_roundw
              case rel => exact ⟨by trivial, t + 1, by omega, by go_num, HN⟩
              case measure => simp [intOf]; omega
            · have HBE : Hid (bldE os ps (N : Int) = 5) := by
                refine bldE_none HE.out ?_
                cases hc : ps.all (atB os)
                · rfl
                · exact absurd (List.all_eq_true.1 hc _ (nth_mem htl)) hat
              rw [if_neg hat] at hlk
              simp only [Option.getD_none, Option.isSome_none] at hlk
              clear hc hx htl hat HI
              generalize nth ps t = X at *
              go_wp2
              refine bodyPost_ret (v := .tuple #[.slice none 0 0, .slice none 0 0, .int .i64 5]) (by simp [results, Try.results15, go_sem]) rfl ?_
              exact ⟨none, 0, 0, none, 0, 0, by rw [HBE.out], HB4.out, Nat.le_refl _, Nat.le_refl _, by rw [bldA_bad (by rw [HBE.out]; decide)]; exact Arr.zero, by rw [bldF_bad (by rw [HBE.out]; decide)]; exact Arr.zero⟩
          · obtain rfl : t = k := by omega
            have hall : ps.all (atB os) = true := List.all_eq_true.2 fun x hx => by
              obtain ⟨i, hi, rfl⟩ := List.getElem_of_mem hx
              rw [← nth_get _ _ hi]
              exact HI.out i (by rw [← HP4.out.1]; exact hi)
            have HBE := Lib.hid (bldE_ok HE.out hall)
            have HR := Lib.hid (renamed_any F t d gm j ps _ w4 HK.out HP4.out HMP.out)
            have hmap : (ps.map fun v => ((fun i => if atB os i = true then some (offs os i.toNat : Int) else none) v).getD 0) = ps.map (fun k => (offs os k.toNat : Int)) := List.map_congr_left fun x hx => by
              have := List.all_eq_true.1 hall x hx
              simp only [if_pos this]
              rfl
            rw [hmap] at HR
            clear hall hmap HI
            go_wp2_with fail
            refine HR.out.mono ?_
            rintro e w6 ⟨g, rfl, _, b6, hW⟩
            have HB6 := Lib.hid (bthen HB4.out b6)
            have HA6 := Lib.hid (HA4.out.later b6)
            have hWA := hW.arr hW.lt
            rw [List.length_map, HP4.out.1] at hWA
            have HWA := Lib.hid hWA
            clear b6 hW hWA HR
            go_wp2
            refine bodyPost_ret (v := .tuple #[.slice A q ac, .slice (some ⟨g, 0, none⟩) t t, .int .i64 0]) (by simp [results, Try.results15, go_sem]) rfl ?_
            refine ⟨A, q, ac, some ⟨g, 0, none⟩, t, t, by rw [HBE.out], HB6.out, HQ.out, Nat.le_refl _, ?_, ?_⟩
            · rw [bldA_ok HBE.out, Int.toNat_natCast, HZS.out]; exact HA6.out
            · rw [bldF_ok HBE.out]; exact HWA.out
  · have hbz : (E != 0) = true := by simpa using h0
    have hb : bldE os ps n = E := by rw [bldE_lay (by rw [HE.out]; exact h0), HE.out]
    have HBE := Lib.hid hb
    have H0 := Lib.hid h0
    clear h0 hb
    go_wp2_with fail
    refine HL.out.mono ?_
    rintro e w1 ⟨b1, A, q, ac, rfl, _, _, _⟩
    have HB1 := Lib.hid (bthen HB.out b1)
    clear b1 HL HB
    go_wp2
    refine bodyPost_ret (v := .tuple #[.slice none 0 0, .slice none 0 0, .int .i64 E]) (by simp [results, Try.results15, go_sem]) rfl ?_
    exact ⟨none, 0, 0, none, 0, 0, by rw [HBE.out], HB1.out, Nat.le_refl _, Nat.le_refl _, by rw [bldA_bad (by rw [HBE.out]; exact H0.out)]; exact Arr.zero, by rw [bldF_bad (by rw [HBE.out]; exact H0.out)]; exact Arr.zero⟩
end Go.Proofs.Ytjefbekdjgmmbaa
