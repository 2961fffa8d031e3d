/-
  slices.DeleteFunc of numbers, with any function value that only lays blocks of its own.
-/
import Derived.Test.YtgekghlmkfkbjaaTallyK
import Derived.Test.YtgekghlmkfkbjaaTintCW
import Derived.Test.YtgekghlmkfkbjaaStepI
namespace Go.Proofs.Ytgekghlmkfkbjaa
open Go.RowKit

set_option maxHeartbeats 400000 in
/-- .., and where the first lies. -/
theorem indexFnAt (A : Option Addr) (n c fid : Nat) (caps : Array Value) (f : Int → Bool) (xs : List Int) (w : World) (hn : n ≤ maxLen) (hx : Arr .i64 w w.heap.size A n xs) (hcall : ∀ args wx, Sem.run Try.prog (callFunc fid args) wx = .ok (.enter fid args) wx)
    (hF : ∀ x ∈ xs, ∀ wx, Below w.heap.size w wx → Calls Try.prog fid (#[.int .i64 x] ++ caps) wx (fun e w' => e = .returned (.bool (f x)) ∧ Below wx.heap.size wx w')) :
    Calls Try.prog 47 #[.slice A n c, .func (.func fid) #[] caps] w fun e w' => (∃ r : Int, e = .returned (.int .i64 r) ∧ ((r = -1 ∧ ∀ x ∈ xs, f x = false) ∨ ∃ j : Nat, r = j ∧ j < n ∧ f (nth xs j) = true ∧ ∀ i, i < j → f (nth xs i) = false)) ∧ Below w.heap.size w w' := by
  unfold maxLen at hn
  have hl := hx.1
  have HF := Lib.hid hF
  have HX := Lib.hid hx
  clear hF hx
  go_enter Try.func47, Try.ntmps47
  go_wp2
  go_loopw [8] (fun i wr => ∃ k : Nat, k ≤ n ∧ i = .int .i64 k ∧ Hid (∀ j, j < k → f (nth xs j) = false) ∧ Hid (Below w.heap.size w wr)) (fun i _ => n - (intOf i).toNat)
  case atStart => exact ⟨0, Nat.zero_le _, rfl, (fun j hj => absurd hj (by omega)), Below.refl _ _⟩
  case round =>
    obtain ⟨k, hk, rfl, HE, HB⟩ := hrel
    by_cases hlt : k < n
    · obtain ⟨b, off, rfl, hbB, hcs⟩ := (HX.out.below HB.out (Nat.le_refl _)).2.2 (by omega)
      have hc := hcs k hlt
      have HC := Lib.hid (HF.out (nth xs k) (nth_mem (by omega)) wr HB.out)
      have HM : Hid (f (nth xs k) = true → (∃ j : Nat, (k : Int) = j ∧ j < n ∧ f (nth xs j) = true ∧ ∀ i, i < j → f (nth xs i) = false)) := fun h => ⟨k, rfl, hlt, h, HE.out⟩
      have HEn : Hid (f (nth xs k) = false → ∀ j, j < k + 1 → f (nth xs j) = false) := fun h j hj => by
        rcases Nat.lt_succ_iff_lt_or_eq.1 hj with h1 | h1
        · exact HE.out j h1
        · rw [h1]; exact h
      clear hcs
      generalize nth xs k = X at *
      cases hf : f X
      · rw [hf] at HC
        have HN := Lib.hid (HEn.out hf)
        clear hf HM HEn
        go_wp2_with fail
        refine HC.out.mono ?_
        rintro e w1 ⟨rfl, hb1⟩
        have HB1 := Lib.hid (HB.out.trans (hb1.mono HB.out.size))
        clear hb1
        go_wp2
        go_roundw
        case rel => exact ⟨k + 1, by omega, by go_num, HN, HB1.out⟩
        case measure => simp [intOf]; omega
      · rw [hf] at HC
        have HN := Lib.hid (HM.out hf)
        clear hf HM HEn
        go_wp2_with fail
        refine HC.out.mono ?_
        rintro e w1 ⟨rfl, hb1⟩
        have HB1 := Lib.hid (HB.out.trans (hb1.mono HB.out.size))
        clear hb1
        go_wp2
        go_ret
        exact ⟨⟨_, rfl, .inr HN.out⟩, HB1.out⟩
    · obtain rfl : k = n := by omega
      have HN : Hid (∀ x ∈ xs, f x = false) := by
        intro x hx
        obtain ⟨j, hj, e⟩ := List.getElem_of_mem hx
        have := HE.out j (by omega)
        rw [nth_get _ _ hj, e] at this
        exact this
      go_wp2
      go_ret
      exact ⟨⟨_, rfl, .inl ⟨rfl, HN.out⟩⟩, HB.out⟩

/-- The end of a slice of numbers is cleared: what lies ahead stays. -/
theorem clear_own {ys : List Int} {w : World} {base g n c i : Nat} (h : Own .i64 3 w base (.slice (some ⟨g, 0, none⟩) n c) ys) (hl : ys.length = n) (hi : i < n) (cc : Nat) :
    ∃ w', Sem.run Try.prog (Builtin.clear_ #[23] 0 #[.slice (some ⟨g, i, none⟩) (n - i) cc]) w = .ok (.tuple #[]) w' ∧ Below base w w' ∧ Arr .i64 w' w'.heap.size (some ⟨g, 0, none⟩) i (ys.take i) := by
  obtain ⟨⟨_, h2⟩, hw⟩ := h
  rcases h2 with ⟨he, _⟩ | ⟨g', cap, cur, he, hg, hh, hnc, hcm, hcs, htk⟩
  · cases he
  · injection he with he1 he2 he3
    injection he1 with he1
    injection he1 with he1 _ _
    subst he1 he3
    have hlt : g < w.heap.size := by
      rcases Nat.lt_or_ge g w.heap.size with h | h
      · exact h
      · rw [Array.getElem?_eq_none h] at hh; cases hh
    have hcur : cur.toList.toArray = cur := by simp
    have hsz : cur.toList.length = c := by simpa using hcs
    have hr := run_clear_rowGT (P := Try.prog) w 23 0 3 g i (n - i) cc cur.toList 3 (.int .i64 0) ((List.replicate (n - i) (0 : Int)).map (Value.int .i64)) (by omega) Try.underlying23 (fun _ => by kernel_rfl)
      (by rw [zeros_ints]) (by rw [hcur]; exact hh) (by rw [List.length_map, List.length_replicate, hsz]; omega) (fun v hv => by obtain ⟨z, _, rfl⟩ := List.mem_map.1 hv; rfl)
    refine ⟨_, hr, below_setRow (Below.refl _ w) hg _, ?_, ?_, ?_⟩
    · rw [List.length_take]; omega
    · intro z hz
      exact hw z (List.mem_of_mem_take hz)
    · intro hi0
      have hh2 : (w.setRow g (splice cur.toList i ((List.replicate (n - i) (0 : Int)).map (Value.int .i64))).toArray).heap[g]? = some (.cells (splice cur.toList i ((List.replicate (n - i) (0 : Int)).map (Value.int .i64))).toArray 3 (0, 0)) := by
        simp [World.setRow, Array.getElem?_modify, hh]
      refine ⟨g, 0, rfl, by simpa [World.setRow] using hlt, fun j hj => ?_⟩
      rw [Nat.zero_add, cell_of_row _ g j _ 3 (0, 0) hh2, List.getElem?_toArray]
      unfold splice
      rw [List.getElem?_append_left (by rw [List.length_take]; omega), List.getElem?_take, if_pos hj]
      have h1 : (cur.toList.take (ys.length * 1))[j]? = some (.int .i64 (nth ys j)) := by
        rw [htk]
        simp [nth, List.getElem?_map, List.getElem?_eq_getElem (show j < ys.length by omega)]
      rw [List.getElem?_take, if_pos (by omega)] at h1
      rw [h1]
      unfold nth
      rw [List.getD_eq_getElem?_getD, List.getD_eq_getElem?_getD, List.getElem?_take, if_pos hj]

theorem keep_step {ys xs : List Int} {i j : Nat} {p : Int → Bool} (hl : ys.length = xs.length) (hij : i < j) (hj : j < xs.length) (ht : ys.take i = (xs.take j).filter p) (hd : ys.drop j = xs.drop j) :
    nth ys j = nth xs j ∧ (p (nth xs j) = true → (ys.set i (nth xs j)).take (i + 1) = (xs.take (j + 1)).filter p ∧ (ys.set i (nth xs j)).drop (j + 1) = xs.drop (j + 1)) ∧
      (p (nth xs j) = false → ys.take i = (xs.take (j + 1)).filter p ∧ ys.drop (j + 1) = xs.drop (j + 1)) := by
  have hd1 : ys.drop (j + 1) = xs.drop (j + 1) := by rw [← List.drop_drop, ← List.drop_drop, hd]
  have htk : xs.take (j + 1) = xs.take j ++ [nth xs j] := by
    rw [List.take_add_one, List.getElem?_eq_getElem hj, nth_get _ _ hj]; rfl
  refine ⟨?_, fun h => ⟨?_, ?_⟩, fun h => ⟨?_, hd1⟩⟩
  · have h1 : (ys.drop j)[0]? = (xs.drop j)[0]? := by rw [hd]
    rw [List.getElem?_drop, List.getElem?_drop, Nat.add_zero] at h1
    unfold nth
    rw [List.getD_eq_getElem?_getD, List.getD_eq_getElem?_getD, h1]
  · rw [htk, List.filter_append, ← ht, List.take_add_one, List.take_set_of_le (Nat.le_refl _), List.getElem?_set_self (by omega)]
    simp [h]
  · rw [List.drop_set_of_lt (by omega), hd1]
  · rw [htk, List.filter_append, ← ht]
    simp [h]

set_option maxHeartbeats 1000000 in
theorem deleteFnIn (A : Option Addr) (n c fid base : Nat) (caps : Array Value) (f : Int → Bool) (xs : List Int) (w : World) (hbs : base ≤ w.heap.size) (hn : n ≤ maxLen) (hl : xs.length = n) (hO : Own .i64 3 w base (.slice A n c) xs) (hcall : ∀ args wx, Sem.run Try.prog (callFunc fid args) wx = .ok (.enter fid args) wx)
    (hF : ∀ x ∈ xs, ∀ wx, Below base w wx → Calls Try.prog fid (#[.int .i64 x] ++ caps) wx (fun e w' => e = .returned (.bool (f x)) ∧ Below wx.heap.size wx w')) :
    Calls Try.prog 27 #[.slice A n c, .func (.func fid) #[] caps] w fun e w' => ∃ A' m, e = .returned (.slice A' m c) ∧ Below base w w' ∧ m ≤ c ∧ Arr .i64 w' w'.heap.size A' m (xs.filter fun x => !f x) := by
  obtain ⟨A9, c9, hv, hxc, hA⟩ := hO.arr
  injection hv with e1 e2 e3
  subst e1 e3
  rw [hl] at hxc hA
  have HW := Lib.hid hO.2
  have HI := Lib.hid (indexFnAt A n c fid caps f xs w hn hA hcall fun x hx wx hb => hF x hx wx (hb.mono hbs))
  have HF := Lib.hid hF
  have HO := Lib.hid hO
  have HL := Lib.hid hl
  have HS := Lib.hid hbs
  unfold maxLen at hn
  clear hF hO hA e2 hl hbs
  go_enter Try.func27, Try.ntmps27
  go_wp2_with fail
  refine HI.out.mono ?_
  rintro e w1 ⟨⟨r, rfl, hr⟩, b1⟩
  have HB1 := Lib.hid (b1.mono HS.out)
  have HO1 := Lib.hid (HO.out.below b1)
  clear HI HO
  rcases hr with ⟨rfl, hall⟩ | ⟨j0, rfl, hj0, hfj, hbef⟩
  · have HR : Hid (Arr .i64 w1 w1.heap.size A n (xs.filter fun x => !f x)) := by
      rw [List.filter_eq_self.2 (fun x hx => by rw [hall x hx]; rfl)]
      obtain ⟨A9, c9, hv, _, hA⟩ := HO1.out.arr
      injection hv with e1 e2 _
      rw [HL.out] at hA
      show Arr _ _ _ _ _ _
      rw [e1]; exact hA
    clear hall b1 HO1
    go_wp2
    go_ret
    exact ⟨_, _, rfl, HB1.out, hxc, HR.out⟩
  · have HT0 : Hid (xs.take j0 = (xs.take (j0 + 1)).filter fun x => !f x) := by
      have hl := HL.out
      show _ = _
      have htk : xs.take (j0 + 1) = xs.take j0 ++ [nth xs j0] := by
        rw [List.take_add_one, List.getElem?_eq_getElem (by omega), nth_get _ _ (by omega)]; rfl
      rw [htk, List.filter_append, List.filter_eq_self.2 (fun x hx => ?_)]
      · simp [hfj]
      · obtain ⟨q, hq, e⟩ := List.getElem_of_mem hx
        rw [List.length_take] at hq
        have h1 := hbef q (by omega)
        rw [nth_get _ _ (by omega)] at h1
        rw [List.getElem_take] at e
        rw [← e, h1]; rfl
    have hne : ((j0 : Int) == -1) = false := by simp
    obtain ⟨g, rfl, hbg, _⟩ := HO1.out.setWord (j := j0) hj0 (x := 0) (by decide)
    have HBG := Lib.hid hbg
    clear hbg
    go_wp2_with fail
    go_loopw [5, 6] (fun p q wr => ∃ (i j : Nat) (ys : List Int), i < j ∧ j ≤ n ∧ p = .int .i64 i ∧ q = .int .i64 j ∧ Hid (Own .i64 3 wr base (.slice (some ⟨g, 0, none⟩) n c) ys) ∧ Hid (ys.length = n) ∧ Hid (ys.take i = (xs.take j).filter fun x => !f x) ∧ Hid (ys.drop j = xs.drop j) ∧ Hid (Below base w wr)) (fun _ q _ => n - (intOf q).toNat)
    case atStart => exact ⟨j0, j0 + 1, xs, by omega, by omega, rfl, by go_num, HO1, HL, HT0, rfl, HB1⟩
    case round =>
      obtain ⟨i, j, ys, hij, hj, rfl, rfl, HOy, HLy, HTy, HDy, HBy⟩ := hrel
      by_cases hlt : j < n
      · obtain ⟨k1, k2, k3⟩ := keep_step (p := fun x => !f x) (by rw [HLy.out, HL.out]) hij (by rw [HL.out]; exact hlt) HTy.out HDy.out
        have hXm : nth xs j ∈ xs := nth_mem (by rw [HL.out]; exact hlt)
        have HC := Lib.hid (HF.out (nth xs j) hXm wr HBy.out)
        have HXW := Lib.hid (HW.out _ hXm)
        obtain ⟨A9, c9, hv, _, hA⟩ := HOy.out.arr
        injection hv with e1 e2 e3
        rw [← e1, HLy.out] at hA
        obtain ⟨b, off, hbo, hb, hcs⟩ := hA.2.2 (by omega)
        injection hbo with hbo
        injection hbo with hbo1 hbo2 _
        subst hbo1 hbo2
        have hc := hcs j hlt
        rw [k1, Nat.zero_add] at hc
        have K2 := Lib.hid k2
        have K3 := Lib.hid k3
        clear k1 k2 k3 hXm e1 e2 e3 hA hb hcs
        generalize nth xs j = X at *
        cases hf : f X
        · rw [hf] at HC
          obtain ⟨t1, t2⟩ := K2.out (by simp [hf])
          have HT2 := Lib.hid t1
          have HD2 := Lib.hid t2
          clear hf t1 t2 K2 K3
          go_wp2_with fail
          refine HC.out.mono ?_
          rintro e w2 ⟨rfl, b2⟩
          have HOz := HOy.out.below b2
          obtain ⟨g', hg', _, hgl, s1, s2, HO3, _⟩ := HOz.setWord (j := i) (by omega) (x := X) HXW.out
          injection hg' with hg'
          injection hg' with hg' _ _
          subst hg'
          have HO3 := Lib.hid HO3
          have HBz := Lib.hid (HBy.out.trans (b2.mono (Nat.le_trans HS.out HBy.out.size)))
          have HB3 : Hid (Below base w (w2.setCell ⟨g, i, none⟩ (.int .i64 X))) := below_set HBz.out HBG.out _ _
          have HL3 : Hid ((ys.set i X).length = n) := by show _ = _; rw [List.length_set]; exact HLy.out
          clear b2 HOz
          go_wp2
          go_roundw
          case rel => exact ⟨i + 1, j + 1, _, by omega, by omega, by go_num, by go_num, HO3, HL3, HT2, HD2, HB3⟩
          case measure => simp [intOf]; omega
        · rw [hf] at HC
          obtain ⟨t1, t2⟩ := K3.out (by simp [hf])
          have HT2 := Lib.hid t1
          have HD2 := Lib.hid t2
          clear hf t1 t2 K2 K3
          go_wp2_with fail
          refine HC.out.mono ?_
          rintro e w2 ⟨rfl, b2⟩
          have HOz := Lib.hid (HOy.out.below b2)
          have HBz := Lib.hid (HBy.out.trans (b2.mono (Nat.le_trans HS.out HBy.out.size)))
          clear b2
          go_wp2
          go_roundw
          case rel => exact ⟨i, j + 1, ys, by omega, by omega, rfl, by go_num, HOz, HLy, HT2, HD2, HBz⟩
          case measure => simp [intOf]; omega
      · obtain rfl : j = n := by omega
        obtain ⟨ad, hs1, had⟩ := run_fromST (P := Try.prog) Try.underlying23 intS g 0 j c i i rfl (by omega) hxc
        obtain rfl := had (by omega)
        rw [Nat.zero_add, Nat.mul_one] at hs1
        obtain ⟨D, hs2, hD⟩ := run_uptoG (P := Try.prog) Try.underlying23 intS (some ⟨g, 0, none⟩) j c i i rfl (by omega)
        obtain rfl := hD g 0 rfl
        obtain ⟨w9, hcl, b9, hA9⟩ := clear_own HOy.out HLy.out hij (c - i)
        rw [HTy.out] at hA9
        have htl : xs.take j = xs := List.take_of_length_le (by rw [HL.out]; exact Nat.le_refl _)
        rw [htl] at hA9
        have HR := Lib.hid hA9
        have HB9 := Lib.hid (HBy.out.trans b9)
        clear htl hA9 b9 had hD
        go_wp2
        go_ret
        exact ⟨_, _, rfl, HB9.out, by omega, HR.out⟩
end Go.Proofs.Ytgekghlmkfkbjaa
