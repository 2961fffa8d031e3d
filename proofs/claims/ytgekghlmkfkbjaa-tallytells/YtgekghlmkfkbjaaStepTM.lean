/-
  The contract of the reference's Written; what StepTells holds behind its head: the state, what Step, Write and Done answered ('TtI').
-/
import Derived.Test.YtgekghlmkfkbjaaStepI
import Derived.Test.YtgekghlmkfkbjaaStepT
import Derived.Test.YtgekghlmkfkbjaaStepH
import Derived.Deep.DeepCutAuto
namespace Go.Proofs.Ytgekghlmkfkbjaa
open Go.RowKit

/-- The error of a write into an arena that is right. -/
def wrtE (zs : List Int) (a r z : Int) : Int := if a ∉ livesI zs then 5 else if r < 0 ∨ vR (nth zs a.toNat) ≤ r ∨ (z ≠ -1 ∧ z ∉ livesI zs) then 4 else 0
def wrtL (zs : List Int) (a r z : Int) : List Int := if wrtE zs a r z = 0 then wrL zs a.toNat r.toNat z else []
theorem writeE_wrtE {zs g b : List Int} {a r z : Int} (h : triE zs g b = 0) : writeE zs g b a r z = wrtE zs a r z := by unfold writeE wrtE; rw [if_neg (by simp [h])]
section
variable {zs : List Int} {a r z : Int}
theorem wrtE_none (ha : a ∉ livesI zs) : wrtE zs a r z = 5 := if_pos ha
theorem wrtE_range (ha : a ∈ livesI zs) (hr : r < 0 ∨ vR (nth zs a.toNat) ≤ r ∨ (z ≠ -1 ∧ z ∉ livesI zs)) : wrtE zs a r z = 4 := by unfold wrtE; rw [if_neg (by simpa using ha), if_pos hr]
theorem wrtE_ok (ha : a ∈ livesI zs) (hr : ¬ (r < 0 ∨ vR (nth zs a.toNat) ≤ r ∨ (z ≠ -1 ∧ z ∉ livesI zs))) : wrtE zs a r z = 0 := by unfold wrtE; rw [if_neg (by simpa using ha), if_neg hr]
theorem wrtL_bad (h : wrtE zs a r z ≠ 0) : wrtL zs a r z = [] := if_neg h
theorem wrtL_ok (h : wrtE zs a r z = 0) : wrtL zs a r z = wrL zs a.toNat r.toNat z := if_pos h
end
/-- What Written answers. -/
def WrittenP (zs : List Int) (a r z : Int) (w : World) (e : Ending) (w' : World) : Prop := ∃ O m c, e = .returned (.tuple #[.slice O m c, .int .i64 (wrtE zs a r z)]) ∧ Below w.heap.size w w' ∧ m ≤ 256 ∧ Arr .u64 w' w'.heap.size O m (wrtL zs a r z)

section
variable {w wx wx' : World} {gX gY gN : Nat} {A G K : Option Addr} {n c ng cg nb cb : Nat} {zs g b : List Int} {A3 G3 K3 : Option Addr} {n3 c3 g3 cg3 k3 cb3 : Nat} {tx : Tri3} {A5 G5 K5 : Option Addr} {n5 c5 g5 cg5 k5 cb5 : Nat} {ty : Tri3} {L : Option Addr} {lm : Nat} {dl : List Int}
end
theorem doneE_wf (E : Int) (h : 0 ≤ E ∧ E ≤ 10) : (Lit.int .i64 E).wf = true := wf_i64.2 (by omega)
/-- The grey ones behind a write, as the law makes them. -/
theorem wrG_no {zs g b : List Int} {a z : Int} (h : TriOk (nxOf zs) (livesI zs) g b) (hfit : ∀ y ∈ livesI zs, 0 ≤ y ∧ y < 256) (hc : ¬ (0 ≤ z ∧ a ∈ b ∧ z ∉ b)) : risingTo g 256 = writeG a z g b := by
  unfold writeG
  rw [if_neg (fun h => hc ⟨h.2.1, h.1, h.2.2.2⟩)]
  exact rise_ext (risingTo_rises _ _) h.gr fun x => by
    rw [risingTo_mem]
    exact ⟨fun h => h.1, fun hx => ⟨hx, hfit x (h.gl x hx)⟩⟩
theorem wrG_yes {zs g b : List Int} {a z : Int} (h : TriOk (nxOf zs) (livesI zs) g b) (hfit : ∀ y ∈ livesI zs, 0 ≤ y ∧ y < 256) (h0 : 0 ≤ z) (ha : a ∈ b) (hb : z ∉ b) : risingTo (g ++ [z]) 256 = writeG a z g b := by
  unfold writeG
  by_cases hg : z ∈ g
  · rw [if_neg (fun h => h.2.2.1 hg)]
    refine rise_ext (risingTo_rises _ _) h.gr fun x => ?_
    rw [risingTo_mem, List.mem_append, List.mem_singleton]
    constructor
    · rintro ⟨h1, _⟩
      rcases h1 with h1 | h1
      · exact h1
      · rw [h1]; exact hg
    · exact fun hx => ⟨.inl hx, hfit x (h.gl x hx)⟩
  · rw [if_pos ⟨ha, h0, hg, hb⟩]

set_option maxHeartbeats 400000 in
theorem risingH_any (A : Option Addr) (n c : Nat) (xs : List Int) (w : World) (hn : n ≤ maxLen) (ha : Arr .i64 w w.heap.size A n xs) :
    Calls Try.prog 38 #[.slice A n c] w fun e w' => ∃ A' c', e = .returned (.slice A' (risingTo xs 256).length c') ∧ Below w.heap.size w w' ∧ Arr .i64 w' w'.heap.size A' (risingTo xs 256).length (risingTo xs 256) ∧ High w.heap.size A' (risingTo xs 256).length := by
  have HA := Lib.hid ha
  have HN := Lib.hid hn
  clear ha hn
  go_enter Try.func38, Try.ntmps38
  go_wp2
  go_loopw [3, 5] (fun v i wr => ∃ j : Nat, j ≤ 256 ∧ i = .int .i64 j ∧ Hid (Own .i64 3 wr w.heap.size v (risingTo xs j)) ∧ Hid (Below w.heap.size w wr)) (fun _ i _ => 256 - (intOf i).toNat)
  case atStart => exact ⟨0, by omega, rfl, by rw [risingTo_zero]; exact Own.nil, Below.refl _ _⟩
  case round =>
    obtain ⟨j, hj, rfl, hO, hB⟩ := hrel
    by_cases hlt : j < 256
    · have HI := Lib.hid (inR_any A n c _ (j : Int) xs wr HN.out (HA.out.below hB.out (Nat.le_refl _)))
      have c1 : ((j : Int) < 256) = True := eq_true (by omega)
      by_cases hm : (j : Int) ∈ xs
      · rw [show decide ((j : Int) ∈ xs) = true by simpa using hm] at HI
        obtain ⟨v', w4, hrun, hO', hB'⟩ := hO.out.push (P := Try.prog) (t := 23) (ty := 23) Try.underlying23 intI_info (by omega) (x := (j : Int)) (wf_i64.2 (by omega)) (by have := risingTo_len xs j; omega) hB.out.size
        rw [← risingTo_yes hm] at hO'
        have HR := Lib.hid hrun
        have HO := Lib.hid hO'
        have HB := Lib.hid (hB.out.trans hB')
        clear hrun hO' hB' hO hB hm
        go_wp2_with fail
        refine HI.out.mono ?_
        rintro e w' ⟨rfl, rfl⟩
        go_wp2_with (at_builtin; refine wpList_append_run rfl (.tmp 11) (.tmp 13) 23 rfl rfl rfl HR.out ?_)
        go_roundw
        case rel => exact ⟨j + 1, by omega, by go_num, HO.out, HB.out⟩
        case measure => simp [intOf]; omega
      · rw [show decide ((j : Int) ∈ xs) = false by simpa using hm] at HI
        have hO1 := hO.out
        rw [← risingTo_no hm] at hO1
        have HO := Lib.hid hO1
        clear hO1 hO hm
        go_wp2_with fail
        refine HI.out.mono ?_
        rintro e w' ⟨rfl, rfl⟩
        go_wp2
        go_roundw
        case rel => exact ⟨j + 1, by omega, by go_num, HO.out, hB.out⟩
        case measure => simp [intOf]; omega
    · obtain rfl : j = 256 := by omega
      obtain ⟨A', c', rfl, _, hA'⟩ := hO.out.arr
      have HA' := Lib.hid hA'
      have HH := Lib.hid hO.out.high
      clear hA' hO
      obtain ⟨m, hm⟩ : ∃ m, (risingTo xs 256).length = m := ⟨_, rfl⟩
      rw [hm] at HA' HH ⊢
      have HM := Lib.hid hm
      clear hm
      go_wp2
      go_ret
      exact ⟨A', c', by rw [HM.out]; rfl, hB.out, by rw [HM.out]; exact HA'.out, by rw [HM.out]; exact HH.out⟩
theorem app_rise {b : List Int} {x : Int} : risingTo (b ++ [x]) 256 = stepB x b := rfl

end Go.Proofs.Ytgekghlmkfkbjaa
