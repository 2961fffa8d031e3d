/-
  The walk of TallyCounts, given what Counts answers ('CountsC').
-/
import Derived.Test.YtgekghlmkfkbjaaTallyD
import Derived.Test.YtgekghlmkfkbjaaTintCW
namespace Go.Proofs.Ytgekghlmkfkbjaa
open Go.RowKit

section
variable {L l bl fr zs : List Int}
theorem sum_add {f g : Int → Nat} : ∀ {L : List Int}, (L.map fun x => f x + g x).sum = (L.map f).sum + (L.map g).sum
  | [] => rfl
  | a :: L => by
    simp only [List.map_cons, List.sum_cons]
    rw [sum_add]
    omega
theorem sum_one {a : Int} : ∀ {L : List Int}, (L.map fun x => if a = x then 1 else 0).sum = L.count a
  | [] => rfl
  | b :: L => by
    rw [List.map_cons, List.sum_cons, sum_one, List.count_cons]
    by_cases h : a = b
    · subst h; simp; omega
    · rw [if_neg h, if_neg (by simpa using fun e => h e.symm)]; omega
theorem sum_count (hn : L.Nodup) (hp : ∀ x ∈ L, 0 ≤ x) : ∀ {l : List Int}, (∀ y ∈ l, 0 ≤ y → y ∈ L) → (L.map fun x => l.count x).sum = (l.filter fun x => decide (0 ≤ x)).length
  | [], _ => by
    simp only [List.count_nil, List.filter_nil, List.length_nil]
    rw [sum_zero]
    intro n hm
    obtain ⟨_, _, rfl⟩ := List.mem_map.1 hm
    rfl
  | a :: l, h => by
    have ih := sum_count hn hp (l := l) fun y hy => h y (List.mem_cons_of_mem _ hy)
    have h1 : (L.map fun x => (a :: l).count x) = L.map fun x => l.count x + if a = x then 1 else 0 := by
      refine List.map_congr_left fun x _ => ?_
      rw [List.count_cons]
      congr 1
      by_cases e : a = x <;> simp [e]
    rw [h1, sum_add, ih, sum_one, List.filter_cons]
    by_cases h0 : 0 ≤ a
    · rw [if_pos (by simpa using h0), List.length_cons]
      have h2 : L.count a ≤ 1 := List.nodup_iff_count.1 hn a
      have h3 : 0 < L.count a := List.count_pos_iff.2 (h a List.mem_cons_self h0)
      omega
    · rw [if_neg (by simpa using h0), List.count_eq_zero.2 fun hm => h0 (hp a hm), Nat.add_zero]
/-- All counts together. -/
theorem counts_sum (hn : L.Nodup) (hp : ∀ x ∈ L, 0 ≤ x) (hf : ∀ y ∈ fr, 0 ≤ y ∧ y ∈ L) : ∀ {bl : List Int}, (∀ z ∈ bl, ∀ y ∈ nxOf zs z, 0 ≤ y → y ∈ L) → (L.map fun x => cntO zs fr bl x).sum = fr.length + (bl.map fun y => (namesOf zs y.toNat).length).sum
  | [], _ => by
    have h1 := sum_count hn hp (l := fr) fun y hy _ => (hf y hy).2
    rw [List.filter_eq_self.2 fun y hy => by simpa using (hf y hy).1] at h1
    rw [← h1]
    rfl
  | b :: bl, h => by
    have ih := counts_sum hn hp hf (bl := bl) fun z hz => h z (List.mem_cons_of_mem _ hz)
    have h1 : (L.map fun x => cntO zs fr (b :: bl) x) = L.map fun x => cntO zs fr bl x + (nxOf zs b).count x := by
      refine List.map_congr_left fun x _ => ?_
      unfold cntO
      rw [List.map_cons, List.sum_cons]
      omega
    rw [h1, sum_add, ih, sum_count hn hp (h b List.mem_cons_self), List.map_cons, List.sum_cons]
    show _ + (namesOf zs b.toNat).length = _
    omega
end
theorem lives_nodup {zs : List Int} : (livesI zs).Nodup := lives_rise.imp fun h e => by omega
/-- How many are named by the first of them; what is counted of the first of them. -/
def namP (zs : List Int) (k : Nat) : Nat := (((livesI zs).take k).map fun y => (namesOf zs y.toNat).length).sum
def cntP (zs fr : List Int) (k : Nat) : Nat := (((livesI zs).take k).map fun x => cntO zs fr (livesI zs) x).sum
section
variable {zs fr : List Int} {k : Nat}
theorem namP_next (h : k < (livesI zs).length) : namP zs (k + 1) = namP zs k + (namesOf zs (nth (livesI zs) k).toNat).length := by
  unfold namP; rw [List.take_succ_eq_append_getElem h, List.map_append, List.sum_append, nth_get _ _ h]; simp
theorem cntP_next (h : k < (livesI zs).length) : cntP zs fr (k + 1) = cntP zs fr k + cntO zs fr (livesI zs) (nth (livesI zs) k) := by
  unfold cntP; rw [List.take_succ_eq_append_getElem h, List.map_append, List.sum_append, nth_get _ _ h]; simp
theorem namP_le (h256 : zs.length ≤ 256) : ∀ {k}, k ≤ (livesI zs).length → namP zs k ≤ 256 * k
  | 0, _ => by unfold namP; simp
  | k + 1, h => by
    rw [namP_next (by omega)]
    have h1 := namP_le h256 (k := k) (by omega)
    have h2 : (namesOf zs (nth (livesI zs) k).toNat).length ≤ 256 := by
      refine Nat.le_trans (List.length_filter_le _ _) ?_
      unfold named refWords
      simp only [List.length_map, List.length_take, List.length_drop]
      omega
    omega
theorem cntP_mono {j : Nat} (h : k ≤ j) (hj : j ≤ (livesI zs).length) : cntP zs fr k ≤ cntP zs fr j := by
  induction j with
  | zero =>
    obtain rfl : k = 0 := by omega
    exact Nat.le_refl _
  | succ j ih =>
    rcases Nat.lt_or_eq_of_le h with h1 | h1
    · rw [cntP_next (by omega)]
      have := ih (by omega) (by omega)
      omega
    · subst h1; exact Nat.le_refl _
theorem cntP_all (hz : ∀ z ∈ zs, (Lit.int .u64 z).wf = true) (h0 : fromE zs fr = 0) : cntP zs fr (livesI zs).length = fr.length + namP zs (livesI zs).length := by
  unfold cntP namP
  rw [List.take_length]
  refine counts_sum lives_nodup lives_pos (fun y hy => ?_) fun z hzl y hy hp => ?_
  · have := (fromE_zero h0).2 y hy
    exact ⟨lives_pos y this, this⟩
  · rcases lives_closed hz (fromE_zero h0).1 z hzl y hy with h | h
    · omega
    · exact h
end
theorem small_counts : countsO [1, 1] [0] = [2] := by
  rw [countsO_ok small_from]
  unfold countsL cntO
  rw [small_lives]
  simp only [List.map_cons, List.map_nil]
  have h1 : nxOf [1, 1] 0 = [0] := small_named
  rw [h1]
  rfl

set_option maxHeartbeats 400000 in
theorem tallies_any (hC : CountsC) (w : World) : Calls Try.prog 18 #[] w fun e w' => e = .returned (.bool true) ∧ Below w.heap.size w w' := by
  have HS := Lib.hid (small_any w)
  have b1 := (Below.refl _ w).alloc (Nat.le_refl _) (.cells #[.int .u64 1, .int .u64 1] 69)
  have W1 : Whole .u64 69 (w.alloc (.cells #[.int .u64 1, .int .u64 1] 69)) w.heap.size [1, 1] := whole_new .u64 69 w [1, 1] small_wf
  obtain ⟨w1, hw1⟩ : ∃ w1, w.alloc (.cells #[.int .u64 1, .int .u64 1] 69) = w1 := ⟨_, rfl⟩
  have hsz : w1.heap.size = w.heap.size + 1 := by rw [← hw1]; simp
  rw [hw1] at b1 W1 HS
  have b2 := (Below.refl _ w1).alloc (Nat.le_refl _) (.cells #[.int .i64 0] 3)
  have W2 : Whole .i64 3 (w1.alloc (.cells #[.int .i64 0] 3)) w1.heap.size [0] := whole_new .i64 3 w1 [0] (by decide)
  have HK := Lib.hid (hC (some ⟨w.heap.size, 0, none⟩) (some ⟨w1.heap.size, 0, none⟩) 2 2 1 1 [1, 1] [0] _ (by unfold maxLen; omega) (by omega) ((W1.alloc _).arr (by simp; omega)) (by omega) (by omega) (W2.arr W2.lt))
  have HB := Lib.hid (b1.trans (b2.mono b1.size))
  clear b1 W1 b2 W2 hw1 hsz
  go_enter Try.func18, Try.ntmps18
  go_wp2_with fail
  refine HS.out.mono ?_
  rintro e w' ⟨rfl, rfl⟩
  go_wp2_with fail
  refine HK.out.mono ?_
  rintro e w3 ⟨L, m, c, rfl, hb3, _, hL⟩
  rw [small_counts] at hL
  obtain rfl : m = 1 := hL.1.symm
  have HB3 := Lib.hid (HB.out.trans (hb3.mono HB.out.size))
  rw [small_from]
  obtain ⟨b, off, rfl, _, hc⟩ := hL.2.2 (by omega)
  have c0 : w3.cell? ⟨b, off, none⟩ = some (.int .i64 2) := hc 0 (by omega)
  clear hb3 hL hc HK
  go_wp2
  go_ret
  exact ⟨rfl, HB3.out⟩

set_option maxRecDepth 8000 in
set_option maxHeartbeats 2000000 in
theorem tallyCounts_of (hC : CountsC) (A F : Option Addr) (n c nf cf : Nat) (zs fr : List Int) (w : World) (hn : n ≤ maxLen) (hnc : n ≤ c) (ha : Arr .u64 w w.heap.size A n zs) (hnf : nf * 8 ≤ 140737488351232) (hnc2 : nf ≤ cf) (hf : Arr .i64 w w.heap.size F nf fr) :
    Calls Try.prog 4 #[.slice A n c, .slice F nf cf] w fun e w' => e = .returned (.bool true) ∧ Below w.heap.size w w' := by
  have HA := Lib.hid ha
  have HFL := Lib.hid hf.1
  have HN := Lib.hid hn
  have HT := Lib.hid (tallies_any hC w)
  have HC := Lib.hid (fun wx (hb : Below w.heap.size w wx) => hC A F n c nf cf zs fr wx hn hnc (ha.later hb) hnf hnc2 (hf.later hb))
  clear ha hf hn hC
  go_enter Try.func4, Try.ntmps4
  go_wp2_with fail
  refine HT.out.mono ?_
  rintro e w1 ⟨rfl, b1⟩
  have HB1 := Lib.hid b1
  have HC1 := Lib.hid (HC.out w1 b1)
  clear b1 HT HC
  go_wp2_with fail
  refine HC1.out.mono ?_
  rintro e w2 ⟨L, m, lc, rfl, b2, _, hL⟩
  have HB2 := Lib.hid (bthen HB1.out b2)
  have HL := Lib.hid hL
  clear b2 HC1 hL HB1
  by_cases h0 : fromE zs fr = 0
  · have H0 := Lib.hid h0
    have hao := (fromE_zero h0).1
    have h256 := arena_len hao
    rw [h0]
    rw [countsO_ok h0] at HL
    have hml : m = (livesI zs).length := by have := HL.out.1; rw [countsL_len] at this; exact this.symm
    have HML := Lib.hid hml
    have hm256 : m ≤ 256 := by rw [hml]; exact lives_len h256
    have HG := Lib.hid (fun wx (hb : Below w.heap.size w wx) => keepBegins_any A n c zs wx HN.out (HA.out.later hb) (arErr_zero hao).1)
    rw [← hml] at HG
    have HR := Lib.hid (fun (t : Nat) (ht : (t : Int) ∈ livesI zs) wx (hb : Below w.heap.size w wx) => refsAt_any A n c zs wx HN.out hnc (HA.out.later hb) hao ht)
    have HALL := Lib.hid (cntP_all HA.out.2.1 h0)
    rw [← hml, HFL.out] at HALL
    have HG1 := Lib.hid (HG.out w2 HB2.out)
    have g0 : IntKind.i64.wrap (-(nf : Int)) = -(nf : Int) := IntWalk.i64_in _ (by omega)
    have hnp := namP_le h256 (k := m) (by omega)
    have hnp2 : namP zs m ≤ 65536 := Nat.le_trans hnp (by omega)
    clear h0 hao hml hnp
    go_wp2_with fail
    refine HG1.out.mono ?_
    rintro e w3 ⟨G, gc, rfl, b3, hG⟩
    have HB3 := Lib.hid (bthen HB2.out b3)
    have HL3 := Lib.hid (HL.out.later b3)
    have HGG := Lib.hid hG
    clear b3 hG HG1 HL
    go_wp2_with fail
    go_loopw [7, 31] (fun s i wr => ∃ k : Nat, k ≤ m ∧ i = .int .i64 k ∧ s = .int .i64 (-(nf : Int) - (namP zs k : Int)) ∧ Hid (Below w3.heap.size w3 wr)) (fun _ i _ => m - (intOf i).toNat)
    case atStart => exact ⟨0, Nat.zero_le _, rfl, by unfold namP; simp, Below.refl _ _⟩
    case round =>
      obtain ⟨k, hk, rfl, rfl, HBk⟩ := hrel
      by_cases hlt : k < m
      · obtain ⟨b, off, rfl, _, hcs⟩ := (HGG.out.below HBk.out (Nat.le_refl _)).2.2 (by omega)
        have c1 := hcs k hlt
        have hkl : k < (livesI zs).length := by have := HML.out; omega
        have hx := nth_mem hkl
        have hp := lives_pos _ hx
        obtain ⟨t, ht⟩ : ∃ t : Nat, nth (livesI zs) k = t := ⟨(nth (livesI zs) k).toNat, by omega⟩
        have HNX := Lib.hid (namP_next hkl)
        rw [ht] at c1 hx HNX
        rw [Int.toNat_natCast] at HNX
        have HR1 := Lib.hid (HR.out t hx wr (bthen HB3.out HBk.out))
        have hmono : namP zs (k + 1) ≤ 65536 := Nat.le_trans (namP_le h256 (k := k + 1) hkl) (by omega)
        have g1 : IntKind.i64.wrap (-(nf : Int) - (namP zs k : Int) - ((namesOf zs t).length : Int)) = -(nf : Int) - (namP zs (k + 1) : Int) := by
          have := HNX.out
          rw [IntWalk.i64_in _ (by omega)]; omega
        have HG1 := Lib.hid g1
        clear hcs hx hp ht
        generalize (namesOf zs t).length = Q at *
        generalize namP zs k = P0 at *
        go_wp2_with fail
        refine HR1.out.mono ?_
        rintro e w5 ⟨A5, c5, rfl, b5, _⟩
        have HB5 := Lib.hid (bthen HBk.out b5)
        clear b5 HR1 c1
        go_wp2
        go_roundw
        case rel => exact ⟨k + 1, by omega, by go_num, by rw [← HG1.out], HB5⟩
        case measure => simp [intOf]; omega
      · obtain rfl : k = m := by omega
        have HB6 := Lib.hid (bthen HB3.out HBk.out)
        have HL6 := Lib.hid (HL3.out.later HBk.out)
        clear HL3 HBk HGG
        go_wp2_with fail
        generalize wr = W6 at *
        go_loopw [7, 44] (fun s i wx => ∃ q : Nat, q ≤ k ∧ i = .int .i64 q ∧ s = .int .i64 (-(nf : Int) - (namP zs k : Int) + (cntP zs fr q : Int)) ∧ wx = W6) (fun _ i _ => k - (intOf i).toNat)
        case atStart => exact ⟨0, Nat.zero_le _, rfl, by unfold cntP; simp, rfl⟩
        case round =>
          obtain ⟨q, hq, rfl, rfl, rfl⟩ := hrel
          by_cases hlt2 : q < k
          · obtain ⟨b, off, rfl, _, hcs⟩ := HL6.out.2.2 (by omega)
            have c1 := hcs q hlt2
            have hql : q < (livesI zs).length := by have := HML.out; omega
            rw [countsL_nth hql] at c1
            have HNX := Lib.hid (cntP_next (fr := fr) hql)
            have hmo := cntP_mono (fr := fr) (show q + 1 ≤ (livesI zs).length by omega) (Nat.le_refl _)
            rw [← HML.out, HALL.out] at hmo
            have g1 : IntKind.i64.wrap (-(nf : Int) - (namP zs k : Int) + (cntP zs fr q : Int) + (cntO zs fr (livesI zs) (nth (livesI zs) q) : Int)) = -(nf : Int) - (namP zs k : Int) + (cntP zs fr (q + 1) : Int) := by
              have := HNX.out
              rw [IntWalk.i64_in _ (by omega)]; omega
            have HG1 := Lib.hid g1
            have hpos : ¬ ((cntO zs fr (livesI zs) (nth (livesI zs) q) : Int) < 0) := by omega
            clear hcs
            generalize cntO zs fr (livesI zs) (nth (livesI zs) q) = Q at *
            generalize cntP zs fr q = P0 at *
            go_wp2
            go_roundw
            case rel => exact ⟨q + 1, by omega, by go_num, by rw [← HG1.out], by trivial⟩
            case measure => simp [intOf]; omega
          · obtain rfl : q = k := by omega
            have hz0 : -(nf : Int) - (namP zs q : Int) + (cntP zs fr q : Int) = 0 := by
              have := HALL.out
              omega
            rw [hz0]
            have HG3 := Lib.hid (HG.out wr HB6.out)
            clear hz0
            go_wp2_with fail
            refine HG3.out.mono ?_
            rintro e w7 ⟨G7, g7, rfl, b7, _⟩
            have HB7 := Lib.hid (bthen HB6.out b7)
            clear b7 HG3
            go_wp2
            go_ret
            exact ⟨rfl, HB7.out⟩
  · have hb : (fromE zs fr != 0) = true := by simpa using h0
    rw [countsO_bad h0] at HL
    obtain rfl : m = 0 := HL.out.1.symm
    clear h0
    go_wp2
    go_ret
    exact ⟨rfl, HB2.out⟩
end Go.Proofs.Ytgekghlmkfkbjaa
