/-
  The walk of SameOrder, given what Form and Alike answer ('FormC', 'AlikeC').
-/
import Derived.Test.YtjefbekdjgmmbaaSameV
import Derived.Test.YtjefbekdjgmmbaaSameH
namespace Go.Proofs.Ytjefbekdjgmmbaa
open Go.RowKit

set_option maxRecDepth 8000 in
set_option maxHeartbeats 4000000 in
theorem sameOrder_of (hF : FormC) (hA : AlikeC) (A F B G C H : Option Addr) (n c nf cf m d ng cg k ck nh ch : Nat) (zs fr ys gr xs er : List Int) (w : World) (h1 : ArenaFrom w A F n c nf cf zs fr) (h2 : ArenaFrom w B G m d ng cg ys gr) (h3 : ArenaFrom w C H k ck nh ch xs er) :
    Calls Try.prog 9 #[.slice A n c, .slice F nf cf, .slice B m d, .slice G ng cg, .slice C k ck, .slice H nh ch] w fun e w' => e = .returned (.bool true) ∧ Below w.heap.size w w' := by
  have HFT := Lib.hid (forms_any hF w)
  have HQ1 := Lib.hid (fun wx (hb : Below w.heap.size w wx) => hA A F B G n c nf cf m d ng cg zs fr ys gr wx (h1.later hb) (h2.later hb))
  have HQ2 := Lib.hid (fun wx (hb : Below w.heap.size w wx) => hA B G A F m d ng cg n c nf cf ys gr zs fr wx (h2.later hb) (h1.later hb))
  have HQ3 := Lib.hid (fun wx (hb : Below w.heap.size w wx) => hA B G C H m d ng cg k ck nh ch ys gr xs er wx (h2.later hb) (h3.later hb))
  have HQ4 := Lib.hid (fun wx (hb : Below w.heap.size w wx) => hA A F C H n c nf cf k ck nh ch zs fr xs er wx (h1.later hb) (h3.later hb))
  have HQ5 := Lib.hid (fun wx (hb : Below w.heap.size w wx) => hA A F A F n c nf cf n c nf cf zs fr zs fr wx (h1.later hb) (h1.later hb))
  clear hF hA h1 h2 h3
  unfold AlikeP at HQ1 HQ2 HQ3 HQ4 HQ5
  have HW1 := Lib.hid (aliE_wf zs fr ys gr)
  have HW2 := Lib.hid (aliE_wf ys gr zs fr)
  have HW3 := Lib.hid (aliE_wf ys gr xs er)
  have HW4 := Lib.hid (aliE_wf zs fr xs er)
  have HW5 := Lib.hid (aliE_wf zs fr zs fr)
  have HT : Hid (aliE zs fr ys gr = 0 → aliE ys gr zs fr = 0 → aliE ys gr xs er = 0 → aliE zs fr xs er = 0 → aliE zs fr zs fr = 0 → aliB ys gr zs fr = aliB zs fr ys gr ∧ aliB zs fr zs fr = true ∧ (aliB zs fr ys gr = true → aliB ys gr xs er = true → aliB zs fr xs er = true)) := fun e1 e2 e3 e4 e5 => by
    rw [aliB_ok e1, aliB_ok e2, aliB_ok e3, aliB_ok e4, aliB_ok e5]
    exact ⟨sameB_comm, sameB_refl, sameB_trans⟩
  generalize aliE zs fr ys gr = E1 at *
  generalize aliE ys gr zs fr = E2 at *
  generalize aliE ys gr xs er = E3 at *
  generalize aliE zs fr xs er = E4 at *
  generalize aliE zs fr zs fr = E5 at *
  generalize aliB zs fr ys gr = X1 at *
  generalize aliB ys gr zs fr = X2 at *
  generalize aliB ys gr xs er = X3 at *
  generalize aliB zs fr xs er = X4 at *
  generalize aliB zs fr zs fr = X5 at *
  go_enter Try.func9, Try.ntmps9
  go_wp2_with fail
  refine HFT.out.mono ?_
  rintro e w1 ⟨rfl, b1⟩
  have HB1 := Lib.hid b1
  clear b1 HFT
  go_wp2_with fail
  refine (HQ1.out w1 HB1.out).mono ?_
  rintro e w2 ⟨rfl, b2⟩
  have HB2 := Lib.hid (bthen HB1.out b2)
  clear b2 HQ1 HB1
  go_wp2_with fail
  refine (HQ2.out w2 HB2.out).mono ?_
  rintro e w3 ⟨rfl, b3⟩
  have HB3 := Lib.hid (bthen HB2.out b3)
  clear b3 HQ2 HB2
  go_wp2_with fail
  refine (HQ3.out w3 HB3.out).mono ?_
  rintro e w4 ⟨rfl, b4⟩
  have HB4 := Lib.hid (bthen HB3.out b4)
  clear b4 HQ3 HB3
  go_wp2_with fail
  refine (HQ4.out w4 HB4.out).mono ?_
  rintro e w5 ⟨rfl, b5⟩
  have HB5 := Lib.hid (bthen HB4.out b5)
  clear b5 HQ4 HB4
  go_wp2_with fail
  refine (HQ5.out w5 HB5.out).mono ?_
  rintro e w6 ⟨rfl, b6⟩
  have HB6 := Lib.hid (bthen HB5.out b6)
  clear b6 HQ5 HB5
  have HN := new_arr 27 w6 [E1, E2, E3, E4, E5] (fun x hx => by
    simp only [List.mem_cons, List.not_mem_nil, or_false] at hx
    rcases hx with rfl | rfl | rfl | rfl | rfl
    · exact HW1.out
    · exact HW2.out
    · exact HW3.out
    · exact HW4.out
    · exact HW5.out) #[.int .i64 E1, .int .i64 E2, .int .i64 E3, .int .i64 E4, .int .i64 E5] rfl
  have HG := Lib.hid (good_any (some ⟨w6.heap.size, 0, none⟩) 5 5 _ [E1, E2, E3, E4, E5] _ (by decide) HN)
  have HB7 := Lib.hid (bthen HB6.out ((Below.refl _ w6).alloc (Nat.le_refl _) (.cells #[.int .i64 E1, .int .i64 E2, .int .i64 E3, .int .i64 E4, .int .i64 E5] 27)))
  clear HW1 HW2 HW3 HW4 HW5 HB6 HN
  by_cases hE : bad [E1, E2, E3, E4, E5] = true
  · rw [hE] at HG
    clear hE HT
    go_wp2_with fail
    refine HG.out.mono ?_
    rintro e w8 ⟨rfl, rfl⟩
    go_wp2
    go_ret
    exact ⟨rfl, HB7.out⟩
  · have hf : bad [E1, E2, E3, E4, E5] = false := by simpa using hE
    rw [hf] at HG
    unfold bad at hf
    rw [List.any_eq_false] at hf
    have hz : ∀ x ∈ [E1, E2, E3, E4, E5], x = 0 := fun x hx => by simpa using hf x hx
    have HT2 := Lib.hid (HT.out (hz _ (by simp)) (hz _ (by simp)) (hz _ (by simp)) (hz _ (by simp)) (hz _ (by simp)))
    clear hE HT hf hz
    go_wp2_with fail
    refine HG.out.mono ?_
    rintro e w8 ⟨rfl, rfl⟩
    obtain ⟨rfl, rfl, h6⟩ := HT2.out
    have HH := Lib.hid h6
    clear h6 HT2 HG
    rcases (by cases X2 <;> simp : X2 = false ∨ X2 = true) with rfl | rfl
    · go_wp2
      go_ret
      exact ⟨rfl, HB7.out⟩
    · rcases (by cases X3 <;> simp : X3 = false ∨ X3 = true) with rfl | rfl
      · go_wp2
        go_ret
        exact ⟨rfl, HB7.out⟩
      · obtain rfl := HH.out rfl rfl
        clear HH
        go_wp2
        go_ret
        exact ⟨rfl, HB7.out⟩
end Go.Proofs.Ytjefbekdjgmmbaa
