/-
  The reference's CountOf, Without, Gone.
-/
import Derived.Test.YtgekghlmkfkbjaaTallyN
import Derived.Test.YtgekghlmkfkbjaaRefT
import Derived.Test.YtgekghlmkfkbjaaStepTM
import Derived.Test.YtgekghlmkfkbjaaLater
namespace Go.Proofs.Ytgekghlmkfkbjaa
open Go.RowKit

section
variable {k : IntKind} {e : TypeId} {w : World} {base : Nat} {v : Value} {xs : List Int}
/-- 'append(v, src...)' of a long list. -/
theorem Own.catB {P : Program} {t ty : TypeId} (h : Own k e w base v xs) (ht : P.underlying t = some (.slice e)) (hinfo : (P.info? e).map (fun i => (i.zero, i.size, i.bytes)) = some (some (.int k 0), 1, 8))
    {A : Option Addr} {m c B : Nat} {ys : List Int} (ha : Arr k w B A m ys) (hn : (xs.length + m) * 8 ≤ 140737488355328) (hbase : base ≤ w.heap.size) :
    ∃ v' w', Sem.run P (Builtin.append_ #[t, t] ty #[v, .slice A m c]) w = .ok v' w' ∧ Own k e w' base v' (xs ++ ys) ∧ Below base w w' := by
  obtain ⟨i, hi, hz, hs, hby⟩ := info_parts hinfo
  have hwf : ∀ y ∈ xs ++ ys, (Lit.int k y).wf = true := by
    intro y hy
    rcases List.mem_append.1 hy with h1 | h1
    · exact h.2 y h1
    · exact ha.2.1 y h1
  rcases A with _ | ad
  · have hm : m = 0 := by
      rcases Nat.eq_zero_or_pos m with h0 | h0
      · exact h0
      · obtain ⟨_, _, h1, _⟩ := ha.2.2 h0
        cases h1
    subst hm
    have hy : ys = [] := List.eq_nil_of_length_eq_zero ha.1
    subst hy
    refine ⟨v, w, ?_, by simpa using h, Below.refl _ _⟩
    rcases h.1.2 with ⟨rfl, h0⟩ | ⟨g, cap, cur, rfl, _, _, hnc, _⟩
    · simp [Builtin.append_, run_underlying ht, sizeOf, typeInfo, hi, Builtin.lenOf, Builtin.firstCells]
    · simp [Builtin.append_, run_underlying ht, sizeOf, typeInfo, hi, Builtin.lenOf, Builtin.firstCells, hnc, storeCells]
  · have hcell : ∀ j u, (ys.map (Value.int k))[j]? = some u → w.cell? (ad.add j) = some u := by
      intro j u hj
      have hjl : j < ys.length := by
        have := (List.getElem?_eq_some_iff.1 hj).1
        simpa using this
      obtain ⟨b, off, h1, _, hc⟩ := ha.2.2 (by have := ha.1; omega)
      injection h1 with h1
      subst h1
      have e1 : (⟨b, off, none⟩ : Addr).add j = ⟨b, off + j, none⟩ := by unfold Addr.add; split <;> simp_all
      rw [e1, hc j (by have := ha.1; omega), ← hj]
      simp [nth, List.getElem?_eq_getElem hjl]
    obtain ⟨v', w', hrun, hown, hg, _, hloc⟩ := run_append_own_at (P := P) w base t ty e i (.int k 0) 1 8 ht hi hz hs hby rfl (by omega) v xs.length (xs.map (Value.int k)) h.1
      ad m c (ys.map (Value.int k)) (by simp [ha.1]) hcell (fun u hu => by obtain ⟨z, _, rfl⟩ := List.mem_map.1 hu; rfl) (by unfold maxLen; omega) hn hbase
    refine ⟨v', w', hrun, ⟨?_, hwf⟩, (Below.refl base w).grown hg hbase (fun b hb => h.row b hb)⟩
    rw [List.map_append, List.length_append, ha.1]
    exact hown
end
theorem tallyI64 : (Try.prog.info? 3).map (fun i => (i.zero, i.size, i.bytes)) = some (some (.int .i64 0), 1, 8) := by kernel_rfl
/-- A count by its first parts. -/
def cnF (fr : List Int) (x : Int) (k : Nat) : Nat := (fr.take k).count x
def cnB (zs bl : List Int) (x : Int) (k : Nat) : Nat := ((bl.take k).map fun y => (nxOf zs y).count x).sum
section
variable {zs fr bl : List Int} {x : Int} {k : Nat}
theorem cnF_next (h : k < fr.length) : cnF fr x (k + 1) = cnF fr x k + if nth fr k = x then 1 else 0 := by
  unfold cnF
  rw [List.take_succ_eq_append_getElem h, List.count_append, List.count_singleton, nth_get _ _ h]
  congr 1
  by_cases e : fr[k] = x <;> simp [e]
theorem cnF_le : cnF fr x k ≤ fr.length := Nat.le_trans List.count_le_length (by rw [List.length_take]; omega)
theorem cnB_next (h : k < bl.length) : cnB zs bl x (k + 1) = cnB zs bl x k + (nxOf zs (nth bl k)).count x := by
  unfold cnB; rw [List.take_succ_eq_append_getElem h, List.map_append, List.sum_append, nth_get _ _ h]; simp
theorem nx_len (h256 : zs.length ≤ 256) {y : Int} : (nxOf zs y).length ≤ 256 := by
  unfold nxOf named refWords
  simp only [List.length_map, List.length_take, List.length_drop]
  omega
theorem cnB_le (h256 : zs.length ≤ 256) : ∀ {k}, k ≤ bl.length → cnB zs bl x k ≤ 256 * k
  | 0, _ => by unfold cnB; simp
  | k + 1, h => by
    rw [cnB_next (by omega)]
    have h1 := cnB_le h256 (k := k) (by omega)
    have h2 : (nxOf zs (nth bl k)).count x ≤ 256 := Nat.le_trans List.count_le_length (nx_len h256)
    omega
theorem cn_all : cntO zs fr bl x = cnF fr x fr.length + cnB zs bl x bl.length := by unfold cntO cnF cnB; rw [List.take_length, List.take_length]
end

set_option maxRecDepth 8000 in
set_option maxHeartbeats 2000000 in
theorem countOf_any (A F D : Option Addr) (n c nf cf nd cd : Nat) (x : Int) (zs fr bl : List Int) (w : World) (ha : Arr .u64 w w.heap.size A n zs) (hf : Arr .i64 w w.heap.size F nf fr) (hnf : nf * 8 ≤ 140737488351232) (hd : Arr .i64 w w.heap.size D nd bl) (h : arErr zs = 0) (hl : ∀ y ∈ bl, y ∈ livesI zs) (hnd : nd ≤ 256) :
    Calls Try.prog 13 #[.slice A n c, .slice F nf cf, .slice D nd cd, .int .i64 x] w fun e w' => e = .returned (.int .i64 (cntO zs fr bl x : Int)) ∧ Below w.heap.size w w' := by
  have h256 := arena_len h
  have HF := Lib.hid hf
  have HD := Lib.hid hd
  have HL := Lib.hid hl
  have HNM := Lib.hid (fun (t : Nat) (ht : (t : Int) ∈ livesI zs) wx (hb : Below w.heap.size w wx) => namedAt_any A n c t zs wx (ha.later hb) h ht)
  have HALL := Lib.hid (cn_all (zs := zs) (fr := fr) (bl := bl) (x := x))
  have hfl := hf.1
  have hdl := hd.1
  rw [hfl, hdl] at HALL
  clear ha hf hd hl
  go_enter Try.func13, Try.ntmps13
  go_wp2_with fail
  go_loopw [9, 18] (fun s i wr => ∃ k : Nat, k ≤ nf ∧ i = .int .i64 k ∧ s = .int .i64 (cnF fr x k : Int) ∧ w = wr) (fun _ i _ => nf - (intOf i).toNat)
  case atStart => exact ⟨0, Nat.zero_le _, rfl, rfl, by trivial⟩
  case round =>
    obtain ⟨k, hk, rfl, rfl, rfl⟩ := hrel
    by_cases hlt : k < nf
    · obtain ⟨b, off, rfl, _, hcs⟩ := HF.out.2.2 (by omega)
      have c1 := hcs k hlt
      have hkf : k < fr.length := by omega
      have HNX := Lib.hid (cnF_next (x := x) hkf)
      have hle := cnF_le (fr := fr) (x := x) (k := k)
      rw [hfl] at hle
      clear hcs
      generalize nth fr k = X at *
      by_cases e : X = x
      · subst e
        have hz : (X == X) = true := by simp
        have HN2 : Hid (cnF fr X (k + 1) = cnF fr X k + 1) := by show _ = _; rw [HNX.out, if_pos rfl]
        clear HNX
        go_wp2
        go_roundw
        case rel => exact ⟨k + 1, by omega, by go_num, by rw [HN2.out]; go_num, by trivial⟩
        case measure => simp [intOf]; omega
      · have hz : (X == x) = false := by simpa using e
        have HN2 : Hid (cnF fr x (k + 1) = cnF fr x k) := by show _ = _; rw [HNX.out, if_neg e]; rfl
        clear HNX
        go_wp2
        go_roundw
        case rel => exact ⟨k + 1, by omega, by go_num, by rw [HN2.out], by trivial⟩
        case measure => simp [intOf]; omega
    · obtain rfl : k = nf := by omega
      have hle := cnF_le (fr := fr) (x := x) (k := k)
      rw [hfl] at hle
      obtain ⟨N0, hN0⟩ : ∃ N, cnF fr x k = N := ⟨_, rfl⟩
      rw [hN0] at HALL hle ⊢
      clear hN0 HF
      go_wp2_with fail
      go_loopw [9, 30] (fun s i wx => ∃ q : Nat, q ≤ nd ∧ i = .int .i64 q ∧ s = .int .i64 ((N0 + cnB zs bl x q : Nat) : Int) ∧ Hid (Below w.heap.size w wx)) (fun _ i _ => nd - (intOf i).toNat)
      case atStart => exact ⟨0, Nat.zero_le _, rfl, by unfold cnB; simp, Below.refl _ _⟩
      case round =>
        obtain ⟨q, hq, rfl, rfl, HB⟩ := hrel
        by_cases hlt2 : q < nd
        · obtain ⟨b, off, rfl, _, hcs⟩ := (HD.out.below HB.out (Nat.le_refl _)).2.2 (by omega)
          have c1 := hcs q hlt2
          have hqb : q < bl.length := by omega
          have hy := HL.out _ (nth_mem hqb)
          have hp := lives_pos _ hy
          obtain ⟨t, ht⟩ : ∃ t : Nat, nth bl q = t := ⟨(nth bl q).toNat, by omega⟩
          have HNX := Lib.hid (cnB_next (zs := zs) (x := x) hqb)
          rw [ht] at c1 hy HNX
          unfold nxOf at HNX
          rw [Int.toNat_natCast] at HNX
          have hle2 := cnB_le (bl := bl) (x := x) h256 (k := q) (by omega)
          have hnl : (named zs t).length ≤ 256 := by have := nx_len h256 (y := (t : Int)); unfold nxOf at this; rwa [Int.toNat_natCast] at this
          have HC := Lib.hid (HNM.out t hy wr HB.out)
          obtain ⟨P0, hP0⟩ : ∃ P, N0 + cnB zs bl x q = P := ⟨_, rfl⟩
          have HP1 : Hid (N0 + cnB zs bl x (q + 1) = P0 + (named zs t).count x) := by show _ = _; rw [HNX.out, ← hP0]; omega
          have hP5 : P0 ≤ k + 256 * 256 := by omega
          rw [hP0]
          clear hcs hy hp ht HNX hP0 hle2
          go_wp2_with fail
          refine HC.out.mono ?_
          rintro e w5 ⟨A5, c5, rfl, b5, hA5, _⟩
          have HB5 := Lib.hid (bthen HB.out b5)
          have HA5 := Lib.hid hA5
          obtain ⟨nl, hnl2⟩ : ∃ nl, (named zs t).length = nl := ⟨_, rfl⟩
          rw [hnl2] at HA5 hnl ⊢
          have HNL := Lib.hid hnl2
          clear b5 hA5 HC c1 hnl2
          go_wp2_with fail
          clear HB
          generalize wr = W1 at *
          go_loopw [9, 38] (fun s i wx => ∃ p : Nat, p ≤ nl ∧ i = .int .i64 p ∧ s = .int .i64 ((P0 + cnF (named zs t) x p : Nat) : Int) ∧ w5 = wx) (fun _ i _ => nl - (intOf i).toNat)
          case atStart => exact ⟨0, Nat.zero_le _, rfl, rfl, by trivial⟩
          case round =>
            obtain ⟨p, hp, rfl, rfl, rfl⟩ := hrel
            have hpl := cnF_le (fr := named zs t) (x := x) (k := p)
            rw [HNL.out] at hpl
            by_cases hlt3 : p < nl
            · obtain ⟨b5, off5, rfl, _, hc5⟩ := HA5.out.2.2 (by omega)
              have c5' := hc5 p hlt3
              have HN3 := Lib.hid (cnF_next (fr := named zs t) (x := x) (k := p) (by have := HNL.out; omega))
              clear hc5
              generalize nth (named zs t) p = X at *
              by_cases e : X = x
              · subst e
                have hz : (X == X) = true := by simp
                have HN2 : Hid (P0 + cnF (named zs t) X (p + 1) = P0 + cnF (named zs t) X p + 1) := by show _ = _; rw [HN3.out, if_pos rfl]; omega
                clear HN3
                have hQ : P0 + cnF (named zs t) X p ≤ k + 300 * 300 := by omega
                generalize P0 + cnF (named zs t) X p = Q at *
                go_wp2
                go_roundw
                case rel => exact ⟨p + 1, by omega, by go_num, by rw [HN2.out]; go_num, by trivial⟩
                case measure => simp [intOf]; omega
              · have hz : (X == x) = false := by simpa using e
                have HN2 : Hid (P0 + cnF (named zs t) x (p + 1) = P0 + cnF (named zs t) x p) := by show _ = _; rw [HN3.out, if_neg e]; rfl
                clear HN3
                go_wp2
                go_roundw
                case rel => exact ⟨p + 1, by omega, by go_num, by rw [HN2.out], by trivial⟩
                case measure => simp [intOf]; omega
            · obtain rfl : p = nl := by omega
              have HE : Hid (P0 + cnF (named zs t) x p = N0 + cnB zs bl x (q + 1)) := by
                show _ = _
                rw [HP1.out, ← HNL.out]
                unfold cnF
                rw [List.take_length]
              rw [HE.out]
              go_wp2
              go_roundw
              case rel => exact ⟨q + 1, by omega, by go_num, rfl, HB5⟩
              case measure => simp [intOf]; omega
        · obtain rfl : q = nd := by omega
          have HBE := Lib.hid HB.out
          rw [← HALL.out]
          go_wp2
          go_ret
          exact ⟨rfl, HBE.out⟩
set_option maxHeartbeats 1000000 in
theorem without_any (A : Option Addr) (n c k : Nat) (xs : List Int) (w : World) (hn : n * 8 ≤ 140737488351232) (hnc : n ≤ c) (hk : k < n) (ha : Arr .i64 w w.heap.size A n xs) :
    Calls Try.prog 17 #[.slice A n c, .int .i64 k] w fun e w' => ∃ A' c', e = .returned (.slice A' (n - 1) c') ∧ n - 1 ≤ c' ∧ c' ≤ maxLen ∧ Below w.heap.size w w' ∧ Arr .i64 w' w'.heap.size A' (n - 1) (withoutL xs k) ∧ High w.heap.size A' (n - 1) := by
  have hl := ha.1
  obtain ⟨D1, hs1, hD1⟩ := run_upto (P := Try.prog) Try.underlying23 (by kernel_rfl) A n c k (k : Int) rfl (by omega)
  obtain ⟨D2, hs2, hD2⟩ := run_from (P := Try.prog) Try.underlying23 (by kernel_rfl) A n c (k + 1) ((k : Int) + 1) (by omega) (by omega) hnc
  have hA1 : Arr .i64 (w.drewN 1) w.heap.size D1 k (xs.take k) := by
    have := (ha.drewN 1).cut (D := D1) (p := 0) (q := k) (by omega) (fun b off e _ => hD1 b off e)
    simpa using this
  have hA2 : Arr .i64 (w.drewN 1) w.heap.size D2 (n - (k + 1)) (xs.drop (k + 1)) := by
    have := (ha.drewN 1).cut (D := D2) (p := k + 1) (q := n - (k + 1)) (by omega) hD2
    rwa [List.take_of_length_le (by rw [List.length_drop]; omega)] at this
  obtain ⟨v1, w1, hr1, ho1, hb1⟩ := Own.madeB (P := Try.prog) (t := 23) (ty := 23) (c := c) (base := w.heap.size) Try.underlying23 tallyI64 hA1 (by omega) (Nat.le_refl _)
  obtain ⟨v2, w2, hr2, ho2, hb2⟩ := ho1.catB (P := Try.prog) (t := 23) (ty := 23) (c := c - (k + 1)) Try.underlying23 tallyI64 (hA2.below hb1 (Nat.le_refl _)) (by rw [List.length_take]; omega) hb1.size
  have g1 : IntKind.i64.wrap ((k : Int) + 1) = (k : Int) + 1 := IntWalk.i64_in _ (by omega)
  obtain ⟨A', c', rfl, hc', hA'⟩ := ho2.arr
  have hw : (xs.take k ++ xs.drop (k + 1)).length = n - 1 := by rw [List.length_append, List.length_take, List.length_drop]; omega
  rw [hw] at hr2 hc' hA' ho2
  have hcap : c' ≤ maxLen := by
    rcases ho2.1.2 with ⟨he, _⟩ | ⟨g, cap, cur, he, _, _, _, hcm2, _⟩
    · injection he with _ _ e3
      rw [e3]; exact Nat.zero_le _
    · injection he with _ _ e3
      rw [e3]; exact hcm2
  have HR1 := Lib.hid hr1
  have HR2 := Lib.hid hr2
  have HB := Lib.hid ((below_drewN (Below.refl _ w) 1).trans (hb1.trans hb2))
  have HA' := Lib.hid hA'
  have HC' := Lib.hid hc'
  have HHI := Lib.hid ho2.high
  have HCM := Lib.hid hcap
  clear ha hA1 hA2 hD1 hD2 hr1 hr2 ho1 ho2 hb1 hb2 hc' hA' hcap
  go_enter Try.func17, Try.ntmps17
  go_wp2_with fail
  refine wp_region_Y 8 (fun _ => True) (by kernel_rfl) ?_
  change anyY _ _ _ _ _ _ _ _ _ (w.drewN 1)
  refine anyY_pure (i := 0) (v := .slice A n c) rfl rfl rfl (by kernel_rfl) (by kernel_rfl) (by kernel_rfl) (fun _ _ _ h => h) (Or.inl ⟨by rfl, fun wx _ => ?_⟩) (.inr trivial) ?_
  · go_simp
  change anyY _ _ _ _ _ _ _ _ { tmps := #[.slice A n c, .int .i64 k, undef, undef, .slice none 0 0, .slice A n c, undef, undef, undef, undef, undef, undef, undef, undef], defers := [] } _
  refine anyY_pure (i := 1) (v := .int .i64 k) rfl rfl rfl (by kernel_rfl) (by kernel_rfl) (by kernel_rfl) (fun _ _ _ h => h) (Or.inl ⟨by rfl, fun wx _ => ?_⟩) (.inr trivial) ?_
  · go_simp
  change anyY _ _ _ _ _ _ _ _ { tmps := #[.slice A n c, .int .i64 k, undef, undef, .slice none 0 0, .slice A n c, .int .i64 k, undef, undef, undef, undef, undef, undef, undef], defers := [] } _
  refine anyY_pure (i := 2) (v := .slice D1 k c) rfl rfl rfl (by kernel_rfl) (by kernel_rfl) (by kernel_rfl) (fun _ _ _ h => h) (Or.inl ⟨by rfl, fun wx _ => ?_⟩) (.inr trivial) ?_
  · go_simp
  change anyY _ _ _ _ _ _ _ _ { tmps := #[.slice A n c, .int .i64 k, undef, undef, .slice none 0 0, .slice A n c, .int .i64 k, .slice D1 k c, undef, undef, undef, undef, undef, undef], defers := [] } _
  refine anyY_pure (i := 4) (v := .slice A n c) rfl rfl rfl (by kernel_rfl) (by kernel_rfl) (by kernel_rfl) (fun _ _ _ h => h) (Or.inl ⟨by rfl, fun wx _ => ?_⟩) (.inr trivial) ?_
  · go_simp
  change anyY _ _ _ _ _ _ _ _ { tmps := #[.slice A n c, .int .i64 k, undef, undef, .slice none 0 0, .slice A n c, .int .i64 k, .slice D1 k c, undef, .slice A n c, undef, undef, undef, undef], defers := [] } _
  refine anyY_pure (i := 5) (v := .int .i64 k) rfl rfl rfl (by kernel_rfl) (by kernel_rfl) (by kernel_rfl) (fun _ _ _ h => h) (Or.inl ⟨by rfl, fun wx _ => ?_⟩) (.inr trivial) ?_
  · go_simp
  change anyY _ _ _ _ _ _ _ _ { tmps := #[.slice A n c, .int .i64 k, undef, undef, .slice none 0 0, .slice A n c, .int .i64 k, .slice D1 k c, undef, .slice A n c, .int .i64 k, undef, undef, undef], defers := [] } _
  refine anyY_pure (i := 6) (v := .int .i64 ((k : Int) + 1)) rfl rfl rfl (by kernel_rfl) (by kernel_rfl) (by kernel_rfl) (fun _ _ _ h => h) (Or.inl ⟨by rfl, fun wx _ => ?_⟩) (.inr trivial) ?_
  · go_simp
  change anyY _ _ _ _ _ _ _ _ { tmps := #[.slice A n c, .int .i64 k, undef, undef, .slice none 0 0, .slice A n c, .int .i64 k, .slice D1 k c, undef, .slice A n c, .int .i64 k, .int .i64 ((k : Int) + 1), undef, undef], defers := [] } _
  refine anyY_pure (i := 7) (v := .slice D2 (n - (k + 1)) (c - (k + 1))) rfl rfl rfl (by kernel_rfl) (by kernel_rfl) (by kernel_rfl) (fun _ _ _ h => h) (Or.inl ⟨by rfl, fun wx _ => ?_⟩) (.inr trivial) ?_
  · go_simp
  change anyY _ _ _ _ _ _ _ _ { tmps := #[.slice A n c, .int .i64 k, undef, undef, .slice none 0 0, .slice A n c, .int .i64 k, .slice D1 k c, undef, .slice A n c, .int .i64 k, .int .i64 ((k : Int) + 1), .slice D2 (n - (k + 1)) (c - (k + 1)), undef], defers := [] } _
  refine anyY_only (i := 3) (by kernel_rfl) ?_
  refine wpOp_step rfl fun K' hK' => ?_
  refine step_append_run rfl (.const (.slice none 0 0)) (.tmp 7) 23 rfl rfl rfl HR1.out ?_
  refine hK' _ _ ⟨.inr (.inr trivial), ?_⟩
  clear hK'
  refine anyY_only (i := 8) (by kernel_rfl) ?_
  refine wpOp_step rfl fun K' hK' => ?_
  refine step_append_run rfl (.tmp 8) (.tmp 12) 23 rfl rfl rfl HR2.out ?_
  refine hK' _ _ ⟨.inr (.inl rfl), ?_⟩
  clear hK'
  refine anyY_pure (i := 9) (v := .slice A' (n - 1) c') rfl rfl rfl (by kernel_rfl) (by kernel_rfl) (by kernel_rfl) (fun _ _ _ h => h) (Or.inl ⟨by rfl, fun wx _ => ?_⟩) (.inl (by kernel_rfl)) ?_
  · go_simp
  refine anyY_done (by kernel_rfl) ?_ _
  go_wp2
  go_ret
  exact ⟨A', c', rfl, HC'.out, HCM.out, HB.out, HA'.out, HHI.out⟩
/-- What holds while objects that nobody names are taken away: what is left, what is gone. -/
structure GoI (zs fr lf out : List Int) : Prop where
  rise : lf.Pairwise (· < ·)
  lives : ∀ x ∈ lf, x ∈ livesI zs
  stay : ∀ x ∈ stayL zs fr, x ∈ lf
  all : ∀ x ∈ livesI zs, x ∈ lf ∨ x ∈ out
  gone : ∀ x ∈ out, x ∈ livesI zs ∧ x ∉ stayL zs fr
section
variable {zs fr lf out : List Int} {i : Nat}
theorem GoI.start : GoI zs fr (livesI zs) [] := ⟨lives_rise, fun _ h => h, fun _ h => stayL_lives h, fun _ h => .inl h, fun _ h => by cases h⟩
theorem without_or {l : List Int} {k : Nat} {x : Int} (hk : k < l.length) (h : x ∈ l) : x = nth l k ∨ x ∈ withoutL l k := by
  have e : l = l.take k ++ nth l k :: l.drop (k + 1) := by
    rw [nth_get _ _ hk]
    exact (List.take_append_drop k l).symm.trans (by rw [List.drop_eq_getElem_cons hk])
  rw [e] at h
  rcases List.mem_append.1 h with h | h
  · exact .inr (List.mem_append_left _ h)
  · rcases List.mem_cons.1 h with h | h
    · exact .inl h
    · exact .inr (List.mem_append_right _ h)
theorem GoI.take (h : GoI zs fr lf out) (hi : i < lf.length) (hc : cntO zs fr lf (nth lf i) = 0) : GoI zs fr (withoutL lf i) (out ++ [nth lf i]) := by
  have hns := stay_keep h.stay hc
  have hsub : (withoutL lf i).Sublist lf := by
    have e : lf = lf.take i ++ nth lf i :: lf.drop (i + 1) := by
      rw [nth_get _ _ hi]
      exact (List.take_append_drop i lf).symm.trans (by rw [List.drop_eq_getElem_cons hi])
    unfold withoutL
    conv => rhs; rw [e]
    exact List.Sublist.append_left (List.sublist_cons_self _ _) _
  refine ⟨List.Pairwise.sublist hsub h.rise, fun x hx => h.lives x (without_sub hx), fun x hx => ?_, fun x hx => ?_, fun x hx => ?_⟩
  · rcases without_or hi (h.stay x hx) with rfl | h1
    · exact absurd hx hns
    · exact h1
  · rcases h.all x hx with h1 | h1
    · rcases without_or hi h1 with rfl | h2
      · exact .inr (by simp)
      · exact .inl h2
    · exact .inr (List.mem_append_left _ h1)
  · rcases List.mem_append.1 hx with h1 | h1
    · exact h.gone x h1
    · rw [List.mem_singleton.1 h1]; exact ⟨h.lives _ (nth_mem hi), hns⟩
theorem GoI.done (h : GoI zs fr lf out) (h256 : zs.length ≤ 256) (hc : ∀ x ∈ lf, cntO zs fr lf x ≠ 0) : risingTo out 256 = goneL zs fr := by
  refine rise_ext (risingTo_rises _ _) gone_rise fun x => ?_
  rw [risingTo_mem, gone_mem]
  constructor
  · rintro ⟨h1, _, _⟩
    exact h.gone x h1
  · rintro ⟨h1, h2⟩
    have h3 := lives_lt h1
    refine ⟨(h.all x h1).resolve_left fun hl => h2 (stayL_holds h.lives hc x hl), h3.1, by omega⟩
theorem GoI.len (h : GoI zs fr lf out) : lf.length ≤ (livesI zs).length := sub_length (h.rise.imp fun h e => by omega) h.lives
end
def lenN : Value → Nat
  | .slice _ n _ => n
  | _ => 0
def boolN : Value → Nat
  | .bool true => 1
  | _ => 0
/-- What holds while Gone goes round. -/
structure GnI (zs fr : List Int) (w1 : World) (lf out : List Int) (D : Option Addr) (cd : Nat) (vo : Value) (wr : World) : Prop where
  inv : GoI zs fr lf out
  left : Arr .i64 wr wr.heap.size D lf.length lf
  cap : lf.length ≤ cd
  own : Own .i64 3 wr w1.heap.size vo out
  below : Below w1.heap.size w1 wr
  few : out.length + lf.length ≤ 600
  off : Off vo.ownBlock D lf.length

set_option maxRecDepth 8000 in
set_option maxHeartbeats 4000000 in
theorem gone_any (A F : Option Addr) (n c nf cf : Nat) (zs fr : List Int) (w : World) (ha : Arr .u64 w w.heap.size A n zs) (hf : Arr .i64 w w.heap.size F nf fr) (hnf : nf * 8 ≤ 140737488351232) (h : fromE zs fr = 0) :
    Calls Try.prog 16 #[.slice A n c, .slice F nf cf] w fun e w' => ∃ A' c', e = .returned (.slice A' (goneL zs fr).length c') ∧ Below w.heap.size w w' ∧ Arr .i64 w' w'.heap.size A' (goneL zs fr).length (goneL zs fr) := by
  have hao := (fromE_zero h).1
  have h256 := arena_len hao
  have HBG := Lib.hid (beginsO_any A n c zs w ha (arErr_zero hao).1)
  have HCO := Lib.hid (fun D nd cd x bl wx (hb : Below w.heap.size w wx) (hd : Arr .i64 wx wx.heap.size D nd bl) (hl : ∀ y ∈ bl, y ∈ livesI zs) (hnd : nd ≤ 256) => countOf_any A F D n c nf cf nd cd x zs fr bl wx (ha.later hb) (hf.later hb) hnf hd hao hl hnd)
  have HLL := Lib.hid (lives_len h256)
  have HLF := Lib.hid (fun x (hx : x ∈ livesI zs) => lives_lt hx)
  clear ha hf h hao
  go_enter Try.func16, Try.ntmps16
  go_wp2_with fail
  refine HBG.out.mono ?_
  rintro e w1 ⟨D0, c0, rfl, b1, hc0, hO⟩
  have hOA : Arr .i64 w1 w1.heap.size D0 (livesI zs).length (livesI zs) := by
    obtain ⟨A9, c9, hv, _, hA⟩ := hO.arr
    injection hv with e1 _ _
    rw [e1]; exact hA
  have HB1 := Lib.hid b1
  have HI : Hid (GnI zs fr w1 (livesI zs) [] D0 c0 (.slice none 0 0) w1) := ⟨GoI.start, hOA, hc0, Own.nil, Below.refl _ _, by have := HLL.out; simp; omega, fun _ _ _ _ h => by cases h⟩
  clear b1 hO hOA hc0 HBG
  go_wp2_with fail
  go_loopw [5, 6, 7] (fun vl vo va wr => ∃ (lf out : List Int) (D : Option Addr) (cd : Nat) (ag : Bool), vl = .slice D lf.length cd ∧ va = .bool ag ∧ Hid (GnI zs fr w1 lf out D cd vo wr) ∧ Hid (ag = false → ∀ x ∈ lf, cntO zs fr lf x ≠ 0)) (fun vl _ va _ => 2 * lenN vl + boolN va)
  case atStart => exact ⟨_, _, _, _, true, rfl, rfl, HI, fun h => by cases h⟩
  case round =>
    obtain ⟨lf, out, D, cd, ag, rfl, rfl, hI, hZ⟩ := hrel
    clear HI
    have hbw : Below w.heap.size w wr := HB1.out.trans (hI.out.below.mono HB1.out.size)
    have hm256 := hI.out.inv.len
    have hll := HLL.out
    obtain ⟨m, hm⟩ : ∃ m, lf.length = m := ⟨_, rfl⟩
    have HM := Lib.hid hm
    rw [hm] at hm256 ⊢
    clear hm
    cases ag
    · have hrow := hI.out.own
      obtain ⟨O, oc, hv, _, hO⟩ := hrow.arr
      subst hv
      have hol : out.length ≤ 600 := by have := hI.out.few; omega
      have HR := Lib.hid (risingH_any O out.length oc out wr (by unfold maxLen; omega) hO)
      rw [hI.out.inv.done h256 (hZ.out rfl)] at HR
      have HBW := Lib.hid hbw
      obtain ⟨ol, hol2⟩ : ∃ ol, out.length = ol := ⟨_, rfl⟩
      rw [hol2] at HR
      rw [hol2]
      clear hrow hO hI hZ hbw hol2
      go_wp2_with fail
      refine HR.out.mono ?_
      rintro e w9 ⟨A9, c9, rfl, b9, hA9, _⟩
      have HB9 := Lib.hid (bthen HBW.out b9)
      have HA9 := Lib.hid hA9
      clear b9 hA9 HR
      go_wp2
      go_ret
      exact ⟨A9, c9, rfl, HB9.out, HA9.out⟩
    · have HBW := Lib.hid hbw
      clear hZ hbw
      go_wp2_with fail
      generalize wr = W0 at *
      obtain ⟨vo, hvo⟩ : ∃ vo, vo = u6 := ⟨_, rfl⟩
      rw [← hvo] at hI ⊢
      clear hvo
      go_loopw [5, 6, 7, 15] (fun vl v6 va i wx => ∃ k : Nat, k ≤ m ∧ i = .int .i64 k ∧ vl = .slice D m cd ∧ v6 = vo ∧ va = .bool false ∧ Hid (Below W0.heap.size W0 wx) ∧ Hid (∀ j, j < k → cntO zs fr lf (nth lf j) ≠ 0)) (fun _ _ _ i _ => m - (intOf i).toNat)
      case atStart => exact ⟨0, Nat.zero_le _, rfl, rfl, rfl, rfl, Below.refl _ _, fun j hj => absurd hj (by omega)⟩
      case round =>
        obtain ⟨k, hk, rfl, rfl, rfl, rfl, HBk, HK⟩ := hrel
        by_cases hlt : k < m
        · have hleft := hI.out.left.later HBk.out
          rw [HM.out] at hleft
          obtain ⟨b, off, rfl, _, hcs⟩ := hleft.2.2 (by omega)
          have c1 := hcs k hlt
          have hkl : k < lf.length := by have := HM.out; omega
          have hxl := hI.out.inv.lives _ (nth_mem hkl)
          have hx := HLF.out _ hxl
          have HC := Lib.hid (HCO.out (some ⟨b, off, none⟩) m cd (nth lf k) lf wr (bthen HBW.out HBk.out) hleft hI.out.inv.lives (by omega))
          clear hcs
          by_cases hc : cntO zs fr lf (nth lf k) = 0
          · rw [hc] at HC
            have HNI := Lib.hid (hI.out.inv.take hkl hc)
            have hwf : (Lit.int .i64 (nth lf k)).wf = true := wf_i64.2 (by omega)
            have HLN := Lib.hid (without_len hkl)
            have hfew := hI.out.few
            have HPU : Hid (∀ w5, Below wr.heap.size wr w5 → ∃ v' w6, Sem.run Try.prog (Builtin.append_ #[23, 23] 23 #[u6, .slice (some ⟨w5.heap.size, 0, none⟩) 1 1]) (w5.alloc (.cells #[.int .i64 (nth lf k)] 3)) = .ok v' w6 ∧
                Own .i64 3 w6 w1.heap.size v' (out ++ [nth lf k]) ∧ Below w1.heap.size w1 w6 ∧ Arr .i64 w6 w6.heap.size (some ⟨b, off, none⟩) m lf) := fun w5 b5 => by
              have b05 := bthen HBk.out b5
              obtain ⟨v', w6, h1, h2, h3⟩ := (hI.out.own.below b05).pushG (P := Try.prog) (t := 23) (ty := 23) Try.underlying23 tallyI64 (by omega) hwf (by omega) (Nat.le_trans hI.out.below.size b05.size)
              have hw15 := hI.out.below.trans (b05.mono hI.out.below.size)
              refine ⟨v', w6, h1, h2, hw15.trans (h3.below hw15.size (fun b hb => hI.out.own.row b hb)), ?_⟩
              have hl5 := hleft.later b5
              have hof := hI.out.off
              rw [HM.out] at hof
              exact (hl5.keepOff hof fun i hi hne => h3.block i hi hne).more h3.size
            clear hx hxl hc
            generalize nth lf k = X at *
            go_wp2_with fail
            refine HC.out.mono ?_
            rintro e w5 ⟨rfl, b5⟩
            obtain ⟨v', w6, hrun, hO6, hB6, hL6⟩ := HPU.out w5 b5
            have HR := Lib.hid hrun
            have HO6 := Lib.hid hO6
            have HB6 := Lib.hid hB6
            have HWO := Lib.hid (without_any (some ⟨b, off, none⟩) m cd k lf w6 (by omega) (by have := hI.out.cap; have := HM.out; omega) hlt hL6)
            clear hrun hO6 hB6 hL6 b5 HPU HC c1
            go_wp2_with (at_builtin; refine wpList_append_run rfl (.tmp 26) (.tmp 28) 23 rfl rfl rfl HR.out ?_)
            refine HWO.out.mono ?_
            rintro e w7 ⟨A7, c7, rfl, hc7, _, b7, hA7, hh7⟩
            have HNX : Hid (GnI zs fr w1 (withoutL lf k) (out ++ [X]) A7 c7 v' w7) := ⟨HNI.out, by rw [HLN.out, HM.out]; exact hA7, by rw [HLN.out, HM.out]; exact hc7, HO6.out.below b7, HB6.out.trans (b7.mono HB6.out.size), by rw [HLN.out, HM.out, List.length_append, List.length_singleton]; have := HM.out; omega, by rw [HLN.out, HM.out]; exact Off.of_high hh7 fun b e => HO6.out.rowLt b e⟩
            clear hc7 b7 hA7 hh7 HWO HR HO6
            go_wp2
            go_roundw
            case rel => exact ⟨_, _, A7, c7, true, by rw [HLN.out, HM.out], rfl, HNX, fun h => by cases h⟩
            case measure => simp [lenN, boolN]; omega
          · have hcb : ((cntO zs fr lf (nth lf k) : Int) == 0) = false := by rw [beq_eq_false_iff_ne]; omega
            have HKN : Hid (∀ j, j < k + 1 → cntO zs fr lf (nth lf j) ≠ 0) := fun j hj => by
              rcases Nat.lt_succ_iff_lt_or_eq.1 hj with h1 | h1
              · exact HK.out j h1
              · rw [h1]; exact hc
            clear hx hxl hc
            generalize cntO zs fr lf (nth lf k) = Q at *
            generalize nth lf k = X at *
            go_wp2_with fail
            refine HC.out.mono ?_
            rintro e w5 ⟨rfl, b5⟩
            have HB5 := Lib.hid (bthen HBk.out b5)
            clear b5 HC c1
            go_wp2
            go_roundw
            case rel => exact ⟨k + 1, by omega, by go_num, rfl, rfl, rfl, HB5, HKN⟩
            case measure => simp [intOf]; omega
        · obtain rfl : k = m := by omega
          have HNX : Hid (GnI zs fr w1 lf out D cd u6 wr) := ⟨hI.out.inv, hI.out.left.later HBk.out, hI.out.cap, hI.out.own.below HBk.out, hI.out.below.trans (HBk.out.mono hI.out.below.size), hI.out.few, hI.out.off⟩
          have HZ : Hid (false = false → ∀ x ∈ lf, cntO zs fr lf x ≠ 0) := fun _ x hx => by
            obtain ⟨j, hj, e⟩ := List.getElem_of_mem hx
            rw [← e, ← nth_get _ _ hj]
            exact HK.out j (by have := HM.out; omega)
          clear hI HK
          go_wp2
          go_roundw
          case rel => exact ⟨lf, out, D, cd, false, by rw [HM.out], rfl, HNX, HZ⟩
          case measure => simp [lenN, boolN]
end Go.Proofs.Ytgekghlmkfkbjaa
