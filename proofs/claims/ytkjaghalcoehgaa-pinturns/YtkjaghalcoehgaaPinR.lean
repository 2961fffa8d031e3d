/-
  Contracts of the reference's PinsFault, Pinned, PinList, SamePins.
-/
import Derived.Test.YtkjaghalcoehgaaPinD
import Derived.Test.YtkjaghalcoehgaaMapM
namespace Go.Proofs.Ytkjaghalcoehgaa
open Go.RowKit

set_option maxRecDepth 8000 in
set_option maxHeartbeats 1000000 in
theorem pinsFault_any (A : Option Addr) (n c : Nat) (l : List (Int × Int)) (w : World) (hn : n ≤ maxLen) (ha : ArrG runC 2 w w.heap.size A n l) :
    Calls Try.prog 8 #[.slice A n c] w fun e w' => e = .returned (.int .i64 (pinE l)) ∧ Below w.heap.size w w' := by
  unfold maxLen at hn
  have hl := ha.1
  by_cases h16 : 16 < n
  · have HR : Hid (pinE l = 2) := by show _ = _; unfold pinE; rw [if_pos (by omega)]
    have c1 : ((16 : Int) < (n : Int)) = True := eq_true (by omega)
    clear ha hl
    go_enter Try.func8, Try.ntmps8
    go_wp2
    go_ret
    exact ⟨by rw [HR.out]; rfl, Below.refl _ _⟩
  · have c1 : ((16 : Int) < (n : Int)) = False := eq_false (by omega)
    have HA := Lib.hid ha
    have HL := Lib.hid hl
    clear ha hl
    go_enter Try.func8, Try.ntmps8
    go_wp2_with fail
    go_loopw [10] (fun i wr => ∃ k : Nat, k ≤ n ∧ i = .int .i64 k ∧ Hid (pinTo l k = 0) ∧ Hid (Below w.heap.size w wr)) (fun i _ => n - (intOf i).toNat)
    case atStart => exact ⟨0, Nat.zero_le _, rfl, rfl, Below.refl _ _⟩
    case round =>
      obtain ⟨k, hk, rfl, HT, HB⟩ := hrel
      by_cases hlt : k < n
      · have haW := HA.out.below HB.out (Nat.le_refl _)
        obtain ⟨b, off, rfl, hbB, hc0, hc1⟩ := haW.run hlt
        have hbW : b < wr.heap.size := Nat.lt_of_lt_of_le hbB HB.out.size
        have HP : Hid (0 < k → wr.cell? ⟨b, off + (k - 1) * 2, none⟩ = some (.int .i64 (nthG l (k - 1)).1)) := fun h0 => by
          obtain ⟨b', off', e, _, h, _⟩ := haW.run (j := k - 1) (by omega)
          injection e with e
          injection e with e1 e2
          subst e1; subst e2
          exact h
        have HBAD : Hid (pinOk (nthG l k) = false → pinE l = 4) := fun h => by
          have e := pinAt_bad (l := l) (i := k) h
          rw [pinE_at (k := k) (by rw [HL.out]; omega) (by rw [HL.out]; exact hlt) HT.out (by rw [e]; decide), e]
        have HFORM : Hid (pinOk (nthG l k) = true → (0 < k ∧ (nthG l k).1 ≤ (nthG l (k - 1)).1) → pinE l = 3) := fun h h2 => by
          have e := pinAt_form (l := l) (i := k) h h2
          rw [pinE_at (k := k) (by rw [HL.out]; omega) (by rw [HL.out]; exact hlt) HT.out (by rw [e]; decide), e]
        have HGOOD : Hid (pinOk (nthG l k) = true → ¬ (0 < k ∧ (nthG l k).1 ≤ (nthG l (k - 1)).1) → pinTo l (k + 1) = 0) := fun h h2 => by
          rw [pinTo_next HT.out]; exact pinAt_ok h h2
        obtain ⟨X, hX⟩ : ∃ X, (nthG l k).1 = X := ⟨_, rfl⟩
        obtain ⟨Y, hY⟩ : ∃ Y, (nthG l k).2 = Y := ⟨_, rfl⟩
        have hok : pinOk (nthG l k) = decide (0 ≤ X ∧ X < 256 ∧ 1 ≤ Y ∧ Y ≤ 1000000) := by unfold pinOk; rw [hX, hY]
        rw [hX] at hc0 HFORM HGOOD
        rw [hY] at hc1
        rw [hok] at HBAD HFORM HGOOD
        have bx := Box.new wr 36 #[.int .i64 X, .int .i64 Y]
        have y0 : (wr.alloc (.cells #[.int .i64 X, .int .i64 Y] 36)).cell? ⟨wr.heap.size, 0, none⟩ = some (.int .i64 X) := bx.cell 0
        have y1 : (wr.alloc (.cells #[.int .i64 X, .int .i64 Y] 36)).cell? ⟨wr.heap.size, 1, none⟩ = some (.int .i64 Y) := bx.cell 1
        have HBw := Lib.hid (HB.out.alloc HB.out.size (.cells #[.int .i64 X, .int .i64 Y] 36))
        clear haW hok hX hY bx HT
        by_cases hx : 0 ≤ X ∧ X < 256
        · have x1 : (X < 0) = False := eq_false (by omega)
          have x2 : (255 < X) = False := eq_false (by omega)
          by_cases hy1 : Y < 1
          · have HR := Lib.hid (HBAD.out (by simp; omega))
            have c2 : (Y < 1) = True := eq_true hy1
            clear HBAD HFORM HGOOD hx hy1 HP
            go_wp2
            go_ret
            exact ⟨by rw [HR.out]; rfl, HBw.out⟩
          · have c2 : (Y < 1) = False := eq_false hy1
            by_cases hy2 : 1000000 < Y
            · have HR := Lib.hid (HBAD.out (by simp; omega))
              have c3 : (1000000 < Y) = True := eq_true hy2
              clear HBAD HFORM HGOOD hx hy1 hy2 HP
              go_wp2
              go_ret
              exact ⟨by rw [HR.out]; rfl, HBw.out⟩
            · have c3 : (1000000 < Y) = False := eq_false hy2
              have hgood : decide (0 ≤ X ∧ X < 256 ∧ 1 ≤ Y ∧ Y ≤ 1000000) = true := by simp; omega
              rw [hgood] at HFORM HGOOD
              clear HBAD hgood hx hy1 hy2
              rcases Nat.eq_zero_or_pos k with h0 | h0
              · subst h0
                rw [Nat.zero_mul, Nat.add_zero] at hc0 hc1
                have HN := Lib.hid (HGOOD.out rfl (by omega))
                clear HFORM HGOOD HP
                go_wp2_with fail
                generalize (wr.alloc (.cells #[.int .i64 X, .int .i64 Y] 36)) = V at *
                go_quiet (fail)
                go_wp2
                go_roundw
                case rel => exact ⟨1, by omega, by go_num, HN, Lib.hid (below_drewN HBw.out _)⟩
                case measure => simp [intOf]; omega
              · obtain ⟨i, rfl⟩ : ∃ i, k = i + 1 := ⟨k - 1, by omega⟩
                have hp := HP.out h0
                rw [show i + 1 - 1 = i by omega] at hp HFORM HGOOD
                have p0 : (wr.alloc (.cells #[.int .i64 X, .int .i64 Y] 36)).cell? ⟨b, off + i * 2, none⟩ = some (.int .i64 (nthG l i).1) := by
                  rw [((Below.refl _ wr).alloc (Nat.le_refl _) (.cells #[.int .i64 X, .int .i64 Y] 36)).cell (p := ⟨b, off + i * 2, none⟩) hbW]
                  exact hp
                generalize (nthG l i).1 = Q at *
                have hi1 : ((i + 1 : Nat) : Int) - 1 = (i : Int) := by omega
                by_cases hq : X ≤ Q
                · have HR := Lib.hid (HFORM.out rfl ⟨h0, hq⟩)
                  have c4 : (X ≤ Q) = True := eq_true hq
                  clear HFORM HGOOD HP hq hp
                  go_wp2_with fail
                  generalize (wr.alloc (.cells #[.int .i64 X, .int .i64 Y] 36)) = V at *
                  go_quiet (fail)
                  go_wp2
                  go_ret
                  exact ⟨by rw [HR.out]; rfl, below_drewN HBw.out _⟩
                · have HN := Lib.hid (HGOOD.out rfl (by omega))
                  have c4 : (X ≤ Q) = False := eq_false hq
                  clear HFORM HGOOD HP hq hp
                  go_wp2_with fail
                  generalize (wr.alloc (.cells #[.int .i64 X, .int .i64 Y] 36)) = V at *
                  go_quiet (fail)
                  go_wp2
                  go_roundw
                  case rel => exact ⟨i + 1 + 1, by omega, by go_num, HN, Lib.hid (below_drewN HBw.out _)⟩
                  case measure => simp [intOf]; omega
        · have HR := Lib.hid (HBAD.out (by simp; omega))
          by_cases hx1 : X < 0
          · have x1 : (X < 0) = True := eq_true hx1
            clear HBAD HFORM HGOOD hx HP hx1
            go_wp2
            go_ret
            exact ⟨by rw [HR.out]; rfl, HBw.out⟩
          · have x1 : (X < 0) = False := eq_false hx1
            have x2 : (255 < X) = True := eq_true (by omega)
            clear HBAD HFORM HGOOD hx HP hx1
            go_wp2
            go_ret
            exact ⟨by rw [HR.out]; rfl, HBw.out⟩
      · obtain rfl : k = n := by omega
        have HR : Hid (pinE l = 0) := by
          show _ = _
          unfold pinE
          rw [if_neg (by rw [HL.out]; omega), HL.out]
          exact HT.out
        go_wp2
        go_ret
        exact ⟨by rw [HR.out]; rfl, HB.out⟩
theorem mapTI : MapT Try.prog .i64 .i64 29 3 3 := ⟨Try.underlying29, Try.underlying3, Try.underlying3, fun _ => by kernel_rfl⟩

/-- Block 'b' is a map that says 'g' of each word. -/
def Says (w : World) (b n : Nat) (g : Int → Int) : Prop := ∃ f, MapF Try.prog .i64 .i64 3 3 w b n f ∧ ∀ x, (f x).getD 0 = g x
theorem Says.look {w : World} {b n : Nat} {g : Int → Int} (h : Says w b n g) {x : Int} (hx : (Lit.int .i64 x).wf = true) : Sem.run Try.prog (Instr.lookup 29 (.map (some b)) (.int .i64 x) false) w = .ok (.int .i64 (g x)) w := by
  obtain ⟨f, hM, hf⟩ := h
  rw [← hf x]
  exact hM.look mapTI hx
theorem Says.lt {w : World} {b n : Nat} {g : Int → Int} (h : Says w b n g) : b < w.heap.size := by
  obtain ⟨f, hM, _⟩ := h
  exact hM.lt
theorem Says.below {w w' : World} {b n B : Nat} {g : Int → Int} (h : Says w b n g) (hb : Below B w w') (hB : b < B) : Says w' b n g := by
  obtain ⟨f, hM, hf⟩ := h
  exact ⟨f, hM.below hb hB, hf⟩
theorem Says.eq {w : World} {b n : Nat} {g g' : Int → Int} (h : Says w b n g) (e : ∀ x, g x = g' x) : Says w b n g' := by
  obtain ⟨f, hM, hf⟩ := h
  exact ⟨f, hM, fun x => (hf x).trans (e x)⟩
/-- 'g' with 'y' at 'x'. -/
def sayAt (g : Int → Int) (x y : Int) : Int → Int := fun j => if j = x then y else g j
/-- 'm[x] = y' as a step of the walk. -/
theorem wpList_says (w : World) {ops : Array Oper} {rest : List Oper} {o : Oper} {a : Act} {Q : Exit → Act → World → Prop} (hgd : o.guard = none) (m x v : Operand) (hop : o.op = .mapUpdate 29 m x v)
    {b n : Nat} {g : Int → Int} {X Y : Int} (hm : a.eval m = .map (some b)) (hx : a.eval x = .int .i64 X) (hv : a.eval v = .int .i64 Y) (h : Says w b n g) (hn : n < 1000) (wX : (Lit.int .i64 X).wf = true) (wY : (Lit.int .i64 Y).wf = true)
    (hK : ∀ w', Says w' b (n + 1) (sayAt g X Y) → w.grownBy w' (some b) → wpList Try.prog ops Q rest (a.put o.dst undef) w') : wpList Try.prog ops Q (o :: rest) a w := by
  obtain ⟨f, hM, hf⟩ := h
  refine wpList_store_map mapTI w hgd m x v hop hm hx hv hM (by unfold maxLen; omega) wX wY fun w' h1 h2 => hK w' ⟨_, h1, fun j => ?_⟩ h2
  unfold put sayAt
  split
  · rfl
  · exact hf j

theorem many_snoc {s : List (Int × Int)} {a m : Int} (h : ∀ x ∈ s, x.1 < a) (b : Int) : manyL (s ++ [(a, m)]) b = if b = a then m else manyL s b := by
  by_cases hb : b = a
  · subst hb
    rw [if_pos rfl, many_in h]
  · rw [if_neg hb, manyL_other hb, List.append_nil]
theorem take_low {l : List (Int × Int)} (h : Rise l) {k : Nat} (hk : k < l.length) : ∀ x ∈ l.take k, x.1 < (nthG l k).1 := by
  intro x hx
  obtain ⟨i, hi, rfl⟩ := List.getElem_of_mem hx
  have hi2 : i < k := by rw [List.length_take] at hi; omega
  unfold Rise at h
  rw [List.pairwise_iff_getElem] at h
  rw [nthG_get _ _ hk, List.getElem_take]
  exact h _ _ _ _ hi2
theorem take_next (l : List (Int × Int)) {k : Nat} (hk : k < l.length) : l.take (k + 1) = l.take k ++ [((nthG l k).1, (nthG l k).2)] := by
  rw [List.take_succ_eq_append_getElem hk, nthG_get _ _ hk]

set_option maxHeartbeats 1000000 in
theorem pinned_any (A : Option Addr) (n c : Nat) (l : List (Int × Int)) (w : World) (ha : ArrG runC 2 w w.heap.size A n l) (hE : pinE l = 0) :
    Calls Try.prog 10 #[.slice A n c] w fun e w' => ∃ b, e = .returned (.map (some b)) ∧ w.heap.size ≤ b ∧ Says w' b n (manyL l) ∧ Below w.heap.size w w' := by
  obtain ⟨h16, hok, hr⟩ := pinE_ok.1 hE
  have hl := ha.1
  have HA := Lib.hid ha
  have HL := Lib.hid hl
  have HOK := Lib.hid hok
  have HRi := Lib.hid hr
  have hn : n ≤ 16 := by omega
  have hmm := @run_makeMap Try.prog
  have HM0 := Lib.hid (MapF.made Try.prog .i64 .i64 3 3 w)
  have HB0 := Lib.hid ((Below.refl _ w).alloc (Nat.le_refl _) (.map #[] 0))
  clear ha hE h16 hok hr hl
  go_enter Try.func10, Try.ntmps10
  go_wp2_with fail
  clear hmm
  obtain ⟨gm, hgm⟩ : ∃ g, w.heap.size = g := ⟨_, rfl⟩
  rw [hgm] at HM0 ⊢
  have HGM := Lib.hid hgm
  clear hgm
  go_loopw [9] (fun i wr => ∃ k : Nat, k ≤ n ∧ i = .int .i64 k ∧ ∃ f, Hid (MapF Try.prog .i64 .i64 3 3 wr gm k f) ∧ Hid (∀ x, (f x).getD 0 = manyL (l.take k) x) ∧ Hid (Below w.heap.size w wr)) (fun i _ => n - (intOf i).toNat)
  case atStart => exact ⟨0, Nat.zero_le _, rfl, _, HM0, (fun x => rfl), HB0⟩
  case round =>
    obtain ⟨k, hk, rfl, f, HM, HF, HB⟩ := hrel
    clear HM0 HB0
    by_cases hlt : k < n
    · have haW := HA.out.below HB.out (Nat.le_refl _)
      obtain ⟨b, off, rfl, hbB, hc0, hc1⟩ := haW.run hlt
      have hx := pinOk_iff.1 (HOK.out (nthG l k) (by rw [nthG_get _ _ (by rw [HL.out]; exact hlt)]; exact List.getElem_mem _))
      have HN : Hid (∀ x, ((put f (nthG l k).1 (nthG l k).2) x).getD 0 = manyL (l.take (k + 1)) x) := fun x => by
        rw [take_next l (by rw [HL.out]; exact hlt), many_snoc (take_low HRi.out (by rw [HL.out]; exact hlt))]
        unfold put
        split
        · rfl
        · exact HF.out x
      obtain ⟨X, hX⟩ : ∃ X, (nthG l k).1 = X := ⟨_, rfl⟩
      obtain ⟨Y, hY⟩ : ∃ Y, (nthG l k).2 = Y := ⟨_, rfl⟩
      rw [hX] at hc0 HN hx
      rw [hY] at hc1 HN hx
      have HX := Lib.hid hx
      have bx := Box.new wr 36 #[.int .i64 X, .int .i64 Y]
      have y0 : (wr.alloc (.cells #[.int .i64 X, .int .i64 Y] 36)).cell? ⟨wr.heap.size, 0, none⟩ = some (.int .i64 X) := bx.cell 0
      have y1 : (wr.alloc (.cells #[.int .i64 X, .int .i64 Y] 36)).cell? ⟨wr.heap.size, 1, none⟩ = some (.int .i64 Y) := bx.cell 1
      have HBw := Lib.hid (HB.out.alloc HB.out.size (.cells #[.int .i64 X, .int .i64 Y] 36))
      have HM1 := Lib.hid (HM.out.alloc (.cells #[.int .i64 X, .int .i64 Y] 36))
      clear haW hx hX hY bx HF HM HB
      go_wp2_with (refine wpList_store_map mapTI _ rfl _ _ _ rfl rfl rfl rfl HM1.out (by unfold maxLen; omega) (wf_i64.2 (by have := HX.out; omega)) (wf_i64.2 (by have := HX.out; omega)) ?_; intro w6 hm6 hg6)
      have HM6 := Lib.hid hm6
      have HB6 := Lib.hid (HBw.out.trans (grown_below hg6 (Nat.le_of_eq HGM.out) HBw.out.size))
      clear hm6 hg6
      go_roundw
      case rel => exact ⟨k + 1, by omega, by go_num, _, HM6, HN, HB6⟩
      case measure => simp [intOf]; omega
    · obtain rfl : k = n := by omega
      have HN : Hid (∀ x, (f x).getD 0 = manyL l x) := fun x => by
        rw [HF.out x, List.take_of_length_le (by rw [HL.out]; omega)]
      go_wp2
      go_ret
      exact ⟨gm, rfl, Nat.le_of_eq HGM.out, ⟨f, HM.out, HN.out⟩, HB.out⟩

set_option maxRecDepth 8000 in
set_option maxHeartbeats 1000000 in
theorem pinList_any (b N : Nat) (g : Int → Int) (w : World) (hm : Says w b N g) :
    Calls Try.prog 12 #[.map (some b)] w fun e w' => ∃ v, e = .returned v ∧ OwnG runC 2 36 w' w.heap.size v (tabTo g 256) ∧ Below w.heap.size w w' := by
  obtain ⟨f, hM, hf⟩ := hm
  have HM := Lib.hid hM
  have HF := Lib.hid hf
  have HLT := Lib.hid hM.lt
  clear hM hf
  go_enter Try.func12, Try.ntmps12
  go_wp2
  go_loopw [3, 5] (fun v i wr => ∃ k : Nat, k ≤ 256 ∧ i = .int .i64 k ∧ Hid (OwnG runC 2 36 wr w.heap.size v (tabTo g k)) ∧ Hid (Below w.heap.size w wr)) (fun _ i _ => 256 - (intOf i).toNat)
  case atStart => exact ⟨0, Nat.zero_le _, rfl, OwnG.nil, Below.refl _ _⟩
  case round =>
    obtain ⟨k, hk, rfl, HO, HB⟩ := hrel
    by_cases hlt : k < 256
    · have hmw := HM.out.below HB.out HLT.out
      have hlk := hmw.look mapTI (x := (k : Int)) (wf_i64.2 (by omega))
      rw [HF.out] at hlk
      have hlen := tabTo_len g k
      have HT : Hid (tabTo g (k + 1) = if 0 < g k then tabTo g k ++ [((k : Int), g k)] else tabTo g k) := rfl
      obtain ⟨G, hG⟩ : ∃ G, g (k : Int) = G := ⟨_, rfl⟩
      rw [hG] at hlk HT
      clear hmw hG
      by_cases h0 : 0 < G
      · have c1 : (0 < G) = True := eq_true h0
        rw [if_pos h0] at HT
        obtain ⟨v', w', hrun, hO', hB'⟩ := HO.out.push (P := Try.prog) (t := 22) (ty := 22) runC_len runC_one (by omega) Try.underlying22 pinI rfl (by omega) ((k : Int), G) (by omega) HB.out.size
        rw [← HT.out] at hO'
        have HO3 := Lib.hid hO'
        have HB3 := Lib.hid (HB.out.trans hB')
        have HR := Lib.hid hrun
        clear hO' hB' hrun h0 hlen
        go_wp2_with (at_builtin; refine wpList_append_run rfl (.tmp 12) (.tmp 18) 22 rfl rfl rfl HR.out ?_)
        go_roundw
        case rel => exact ⟨k + 1, by omega, by go_num, HO3, HB3⟩
        case measure => simp [intOf]; omega
      · have c1 : (0 < G) = False := eq_false h0
        rw [if_neg h0] at HT
        have HO3 : Hid (OwnG runC 2 36 wr w.heap.size _ (tabTo g (k + 1))) := Lib.hid (by rw [HT.out]; exact HO.out)
        clear h0 hlen HO
        go_wp2
        go_roundw
        case rel => exact ⟨k + 1, by omega, by go_num, HO3, HB⟩
        case measure => simp [intOf]; omega
    · obtain rfl : k = 256 := by omega
      go_wp2
      go_ret
      exact ⟨_, rfl, HO.out, HB.out⟩

set_option maxHeartbeats 400000 in
theorem samePins_same (A A' : Option Addr) (n c c' B : Nat) (xs : List (Int × Int)) (w : World) (hx : ArrG runC 2 w B A n xs) (hy : ArrG runC 2 w B A' n xs) (hn : n ≤ maxLen) :
    Calls Try.prog 11 #[.slice A n c, .slice A' n c'] w fun e w' => e = .returned (.bool true) ∧ ∃ q, w.drewN q = w' := by
  unfold maxLen at hn
  have ht : ((n : Int) != (n : Int)) = false := by simp
  go_enter Try.func11, Try.ntmps11
  go_wp2
  go_loopw [13] (fun i wr => ∃ k : Nat, k ≤ n ∧ i = .int .i64 k ∧ ∃ q, w.drewN q = wr) (fun i _ => n - (intOf i).toNat)
  case atStart => exact ⟨0, Nat.zero_le _, rfl, 0, rfl⟩
  case round =>
    obtain ⟨k, hk, rfl, q, rfl⟩ := hrel
    by_cases hlt : k < n
    · obtain ⟨b, off, rfl, _, hc0, hc1⟩ := hx.run hlt
      obtain ⟨b', off', rfl, _, hd0, hd1⟩ := hy.run hlt
      have hlt' : (k : Int) < (n : Int) := by omega
      clear hx hy
      generalize (nthG xs k).1 = X at *
      generalize (nthG xs k).2 = Y at *
      go_wp2
      go_quiet (fail)
      go_wp2
      go_roundw
      case rel => exact ⟨k + 1, by omega, by go_num, _, rfl⟩
      case measure => simp [intOf]; omega
    · obtain rfl : k = n := by omega
      clear hx hy
      go_wp2
      go_ret
      exact ⟨rfl, _, rfl⟩

set_option maxHeartbeats 400000 in
theorem equalPins_same (A A' : Option Addr) (n c c' B : Nat) (xs : List (Int × Int)) (w : World) (hx : ArrG runC 2 w B A n xs) (hy : ArrG runC 2 w B A' n xs) (hn : n ≤ maxLen) :
    Calls Try.prog 14 #[.slice A n c, .slice A' n c'] w fun e w' => e = .returned (.bool true) ∧ ∃ q, w.drewN q = w' := by
  unfold maxLen at hn
  have ht : ((n : Int) != (n : Int)) = false := by simp
  go_enter Try.func14, Try.ntmps14
  go_wp2
  go_loopw [13] (fun i wr => ∃ k : Nat, k ≤ n ∧ i = .int .i64 k ∧ ∃ q, w.drewN q = wr) (fun i _ => n - (intOf i).toNat)
  case atStart => exact ⟨0, Nat.zero_le _, rfl, 0, rfl⟩
  case round =>
    obtain ⟨k, hk, rfl, q, rfl⟩ := hrel
    by_cases hlt : k < n
    · obtain ⟨b, off, rfl, _, hc0, hc1⟩ := hx.run hlt
      obtain ⟨b', off', rfl, _, hd0, hd1⟩ := hy.run hlt
      have hlt' : (k : Int) < (n : Int) := by omega
      clear hx hy
      generalize (nthG xs k).1 = X at *
      generalize (nthG xs k).2 = Y at *
      go_wp2
      go_quiet (fail)
      go_wp2
      go_roundw
      case rel => exact ⟨k + 1, by omega, by go_num, _, rfl⟩
      case measure => simp [intOf]; omega
    · obtain rfl : k = n := by omega
      clear hx hy
      go_wp2
      go_ret
      exact ⟨rfl, _, rfl⟩
end Go.Proofs.Ytkjaghalcoehgaa
