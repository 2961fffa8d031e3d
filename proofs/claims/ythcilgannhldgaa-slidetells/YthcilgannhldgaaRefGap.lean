/-
  Slices of runs, and the reference's runs and gaps.
-/
import Derived.Test.YthcilgannhldgaaRunM
import Derived.Test.YthcilgannhldgaaRef
import Derived.Test.YthcilgannhldgaaGapM
import Derived.Test.YthcilgannhldgaaHead
namespace Go.Proofs.Ythcilgannhldgaa
open Go.RowKit

theorem ArrG.run {w : World} {B n : Nat} {A : Option Addr} {l : List (Int × Int)} (h : ArrG runC 2 w B A n l) {j : Nat} (hj : j < n) :
    ∃ b off, A = some ⟨b, off, none⟩ ∧ b < B ∧ w.cell? ⟨b, off + j * 2, none⟩ = some (.int .i64 (nthG l j).1) ∧ w.cell? ⟨b, off + j * 2 + 1, none⟩ = some (.int .i64 (nthG l j).2) := by
  obtain ⟨b, off, e, hb, hc⟩ := h.at_ hj
  exact ⟨b, off, e, hb, hc 0 (by omega), hc 1 (by omega)⟩
theorem any_true {f : Nat → Bool} {n k : Nat} (hk : k < n) (h : f k = true) : (List.range n).any f = true := List.any_eq_true.2 ⟨k, List.mem_range.2 hk, h⟩
theorem any_false {f : Nat → Bool} {n : Nat} (h : ∀ j, j < n → f j = false) : (List.range n).any f = false := by
  rw [List.any_eq_false]; intro j hj; rw [h j (List.mem_range.1 hj)]; decide

/-- The answer of IndexFunc: the first number that the rule marks, -1 if none. -/
def FoundAt (n : Nat) (f : Nat → Bool) (w : World) (e : Ending) (w' : World) : Prop := ∃ r : Int, e = .returned (.int .i64 r) ∧ Below w.heap.size w w' ∧
  ((∃ k : Nat, r = k ∧ k < n ∧ f k = true ∧ ∀ j, j < k → f j = false) ∨ (r = -1 ∧ ∀ j, j < n → f j = false))

theorem nthG_ext {α : Type} [Inhabited α] {xs ys : List α} (hl : xs.length = ys.length) (h : ∀ j, j < xs.length → nthG xs j = nthG ys j) : xs = ys := by
  apply List.ext_getElem hl
  intro i h1 h2
  have := h i h1
  simpa [nthG, h1, h2] using this

theorem runInfoR : (Try.prog.info? 47).map (fun i => (i.zero, i.size, i.bytes)) = some (some (.agg #[.int .i64 0, .int .i64 0]), 2, 16) := by kernel_rfl
/-- What RunsOf answers. -/
def RunsOfR (f : Nat → Bool) (n : Nat) (w : World) (e : Ending) (w' : World) : Prop := ∃ v, e = .returned v ∧ OwnG runC 2 47 w' w.heap.size v (runsTo f n) ∧ Below w.heap.size w w'
set_option maxHeartbeats 1000000 in
theorem runsOfR_any (n fid : Nat) (caps : Array Value) (f : Nat → Bool) (w : World) (hn : n ≤ 100000) (hcall : ∀ args wx, Sem.run Try.prog (callFunc fid args) wx = .ok (.enter fid args) wx)
    (hF : ∀ wx, Below w.heap.size w wx → ∀ k : Nat, k < n → Calls Try.prog fid (#[.int .i64 k] ++ caps) wx (fun e w' => e = .returned (.bool (f k)) ∧ Below wx.heap.size wx w')) :
    Calls Try.prog 59 #[.int .i64 n, .func (.func fid) #[] caps] w (RunsOfR f n w) := by
  have HF := Lib.hid hF
  clear hF
  go_enter Try.func59, Try.ntmps59
  go_wp2
  go_loopw [5, 8] (fun v i wr => ∃ k : Nat, k ≤ n ∧ i = .int .i64 k ∧ OwnG runC 2 47 wr w.heap.size v (runsTo f k) ∧ Below w.heap.size w wr) (fun _ i _ => n - (intOf i).toNat)
  case atStart => exact ⟨0, Nat.zero_le _, rfl, OwnG.nil, Below.refl _ _⟩
  case round =>
    obtain ⟨k, hk, rfl, hO, hB⟩ := hrel
    by_cases hlt : k < n
    · have HC := Lib.hid (HF.out wr hB k hlt)
      have hlen := runsTo_len (f := f) k
      cases hf : f k
      · rw [hf] at HC
        have Hf := Lib.hid (runsTo_off hf)
        have HO := Lib.hid hO
        have HB := Lib.hid hB
        clear hf hO hB
        go_wp2_with fail
        refine HC.out.mono ?_
        rintro e w1 ⟨rfl, hb1⟩
        have HO1 := Lib.hid (HO.out.below hb1)
        have HB1 := Lib.hid (HB.out.trans (hb1.mono HB.out.size))
        clear hb1
        go_wp2
        go_roundw
        case rel => exact ⟨k + 1, by omega, by go_num, by rw [Hf.out]; exact HO1.out, HB1.out⟩
        case measure => simp [intOf]; omega
      · rw [hf] at HC
        have HO := Lib.hid hO
        have HB := Lib.hid hB
        clear hO hB
        have Hf := Lib.hid hf
        clear hf
        by_cases h0 : 0 < k
        · obtain ⟨i, rfl⟩ : ∃ i, k = i + 1 := ⟨k - 1, by omega⟩
          have hRk := runs_ok f (i + 1)
          go_wp2_with fail
          refine HC.out.mono ?_
          rintro e w1 ⟨rfl, hb1⟩
          have HO1 := Lib.hid (HO.out.below hb1)
          have HB1 := Lib.hid (HB.out.trans (hb1.mono HB.out.size))
          have HC1 := Lib.hid (HF.out w1 HB1.out i (by omega))
          clear hb1
          cases hi : f i
          · rw [hi] at HC1
            have Hi := Lib.hid hi
            clear hi hRk
            go_wp2_with fail
            refine HC1.out.mono ?_
            rintro e w2 ⟨rfl, hb2⟩
            have HO2 := Lib.hid (HO1.out.below hb2)
            have HB2 := Lib.hid (HB1.out.trans (hb2.mono HB1.out.size))
            clear hb2
            obtain ⟨v', w', hrun, hO', hB'⟩ := HO2.out.push (P := Try.prog) (t := 43) (ty := 43) runC_len runC_one (by omega) Try.underlying43 runInfoR rfl (by omega) (((i + 1 : Nat) : Int), (1 : Int)) (by omega) HB2.out.size
            rw [← runsTo_new Hf.out (by rintro ⟨_, h⟩; rw [Nat.add_sub_cancel, Hi.out] at h; cases h)] at hO'
            have HO3 := Lib.hid hO'
            have HB3 := Lib.hid (HB2.out.trans hB')
            have HR := Lib.hid hrun
            clear hO' hB' hrun
            go_wp2_with (at_builtin; refine wpList_append_run rfl (.tmp 33) (.tmp 36) 43 rfl rfl rfl HR.out ?_)
            go_roundw
            case rel => exact ⟨i + 1 + 1, by omega, by go_num, HO3.out, HB3.out⟩
            case measure => simp [intOf]; omega
          · rw [hi] at HC1
            have Hi := Lib.hid hi
            have hpos := runsTo_some i hi
            have hp := hRk.pos ((runsTo f (i + 1)).length - 1) (by omega)
            clear hi hRk
            go_wp2_with fail
            refine HC1.out.mono ?_
            rintro e w2 ⟨rfl, hb2⟩
            have hO2 := HO1.out.below hb2
            have hB2 := HB1.out.trans (hb2.mono HB1.out.size)
            have HOn := Lib.hid (runsTo_on Hf.out ⟨by omega, by rw [Nat.add_sub_cancel]; exact Hi.out⟩)
            clear hb2
            obtain ⟨q, hq⟩ : ∃ q, (runsTo f (i + 1)).length = q + 1 := ⟨(runsTo f (i + 1)).length - 1, by omega⟩
            rw [hq, Nat.add_sub_cancel] at hp
            generalize hL : runsTo f (i + 1) = L at *
            obtain ⟨g, cap, rfl, hcap, hg, hglt, hcells, hset⟩ := hO2.form runC_len (by omega)
            obtain ⟨hca, hfa⟩ := hcells q (by omega) 1 (by omega)
            have hca' : w2.cell? ⟨g, q * 2 + 1, none⟩ = some (.int .i64 (nthG L q).2) := hca
            have HS := Lib.hid (hset q 1 ((nthG L q).1, (nthG L q).2 + 1) (.int .i64 ((nthG L q).2 + 1)) (by omega) (by omega) rfl)
            have HB3 := Lib.hid (hB2.setCell (p := ⟨g, q * 2 + 1, none⟩) hg (.int .i64 ((nthG L q).2 + 1)))
            have HBump : Hid (bump L = L.set q ((nthG L q).1, (nthG L q).2 + 1)) := by show _ = _; unfold bump; rw [hq, Nat.add_sub_cancel]
            rw [hq] at hcap HS ⊢
            have hq9 : q ≤ 100000 := by omega
            clear hcells hset hO2 hB2 hca hlen
            have HQ := Lib.hid hq
            have HLL := Lib.hid hL
            clear hq hL
            generalize (nthG L q).2 = Y at *
            generalize (nthG L q).1 = X at *
            go_wp2
            go_roundw
            case rel => exact ⟨i + 1 + 1, by omega, by go_num, by rw [HOn.out, HBump.out]; exact HS.out, HB3.out⟩
            case measure => simp [intOf]; omega
        · obtain rfl : k = 0 := by omega
          have Hn := Lib.hid (runsTo_new Hf.out (by omega))
          go_wp2_with fail
          refine HC.out.mono ?_
          rintro e w1 ⟨rfl, hb1⟩
          have HO1 := Lib.hid (HO.out.below hb1)
          have HB1 := Lib.hid (HB.out.trans (hb1.mono HB.out.size))
          clear hb1
          obtain ⟨v', w', hrun, hO', hB'⟩ := HO1.out.push (P := Try.prog) (t := 43) (ty := 43) runC_len runC_one (by omega) Try.underlying43 runInfoR rfl (by omega) (((0 : Nat) : Int), (1 : Int)) (by omega) HB1.out.size
          rw [← Hn.out] at hO'
          have HO3 := Lib.hid hO'
          have HB3 := Lib.hid (HB1.out.trans hB')
          have HR := Lib.hid hrun
          clear hO' hB' hrun
          go_wp2_with (at_builtin; refine wpList_append_run rfl (.tmp 33) (.tmp 36) 43 rfl rfl rfl HR.out ?_)
          go_roundw
          case rel => exact ⟨0 + 1, by omega, by go_num, HO3.out, HB3.out⟩
          case measure => simp [intOf]; omega
    · obtain rfl : n = k := by omega
      have HO := Lib.hid hO
      have HB := Lib.hid hB
      clear hO hB
      go_wp2
      go_ret
      exact ⟨_, rfl, HO.out, HB.out⟩



set_option maxHeartbeats 400000 in
theorem freeHead_any (n : Nat) (w : World) (h0 : 0 < n) (h1 : n ≤ 256) :
    Calls Try.prog 36 #[.int .i64 n] w fun e w' => e = .returned (.int .u64 (fWord n)) ∧ Below w.heap.size w w' := by
  have HW := Lib.hid (headWord_any 0 ((n : Int) - 1) 0 true w (fWord_fault h0 h1))
  change Hid (Calls _ _ _ w fun e w' => e = .returned (.int .u64 (fWord n)) ∧ Below w.heap.size w w') at HW
  generalize fWord n = V at *
  go_enter Try.func36, Try.ntmps36
  go_wp2_with fail
  refine HW.out.mono ?_
  rintro e w1 ⟨rfl, hb⟩
  have HB := Lib.hid hb
  clear hb
  go_wp2
  go_ret
  exact ⟨rfl, HB.out⟩

/-- What Emptied answers. -/
def EmptiedP (n : Nat) (ys : List Int) (w : World) (e : Ending) (w' : World) : Prop := ∃ A c, e = .returned (.slice A n c) ∧ Own .u64 31 w' w.heap.size (.slice A n c) ys ∧ Below w.heap.size w w'
theorem zero_step (zs : List Int) (p k : Nat) (h : p + k < zs.length) : (splice zs p (List.replicate k 0)).set (p + k) 0 = splice zs p (List.replicate (k + 1) 0) := splice_step zs p k 0 h
theorem splice_nil (zs : List Int) (p : Nat) : splice zs p [] = zs := by simp [splice]
theorem splice_len (zs : List Int) (p k : Nat) (h : p + k ≤ zs.length) : (splice zs p (List.replicate k (0 : Int))).length = zs.length := by unfold splice; simp; omega

end Go.Proofs.Ythcilgannhldgaa
