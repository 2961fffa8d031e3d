/-
  Parts of the proof of SameForms: SameV.
-/
import Derived.ArgAppend
import Derived.Test.YtjefbekdjgmmbaaSameFormsAq
import Derived.Test.YtjefbekdjgmmbaaSameFormsAr
namespace Go.Proofs.Ytjefbekdjgmmbaa
open Go.RowKit
theorem small_form : (formO [1, 1] [0]).length = 1 := by
  unfold formO
  rw [obsC_len]
  decide
set_option maxHeartbeats 1000000 in
theorem forms_any (hF : FormC) (w : World) : Calls Try.prog 30 #[] w fun e w' => e = .returned (.bool true) ∧ Below w.heap.size w w' := by
  have HS := Lib.hid (small_any w)
  have b1 := (Below.refl _ w).alloc (Nat.le_refl _) (.cells #[.int .u64 1, .int .u64 1] 47)
  have W1 : Whole .u64 47 (w.alloc (.cells #[.int .u64 1, .int .u64 1] 47)) w.heap.size [1, 1] := whole_new .u64 47 w [1, 1] small_wf
  obtain ⟨w1, hw1⟩ : ∃ w1, w.alloc (.cells #[.int .u64 1, .int .u64 1] 47) = w1 := ⟨_, rfl⟩
  have hsz : w1.heap.size = w.heap.size + 1 := by rw [← hw1]; simp
  rw [hw1] at b1 W1 HS
  have b2 := (Below.refl _ w1).alloc (Nat.le_refl _) (.cells #[.int .i64 0] 3)
  have W2 : Whole .i64 3 (w1.alloc (.cells #[.int .i64 0] 3)) w1.heap.size [0] := whole_new .i64 3 w1 [0] (by decide)
  have HQ := Lib.hid (hF (some ⟨w.heap.size, 0, none⟩) (some ⟨w1.heap.size, 0, none⟩) 2 2 1 1 [1, 1] [0] _ ⟨(W1.alloc _).arr (by simp; omega), W2.arr W2.lt, by omega, by omega, by omega, by omega⟩)
  have HB := Lib.hid (b1.trans (b2.mono b1.size))
  clear b1 W1 b2 W2 hw1 hsz
  have HEE := Lib.hid small_from
  unfold SFormP at HQ
  rw [small_from, sfO_ok small_from, sfF_ok small_from] at HQ
  go_enter Try.func30, Try.ntmps30
  go_wp2_with fail
  refine HS.out.mono ?_
  rintro e w' ⟨rfl, rfl⟩
  go_wp2_with fail
  refine HQ.out.mono ?_
  rintro e w3 ⟨D, m, c, F, k, d, raws, rfl, hb3, hI⟩
  have HB3 := Lib.hid (HB.out.trans (hb3.mono HB.out.size))
  obtain rfl : m = 1 := by
    rw [← hI.objs.1]
    exact small_form
  clear hI hb3 HQ
  go_wp2
  go_ret
  exact ⟨rfl, HB3.out.alloc HB3.out.size _⟩
end Go.Proofs.Ytjefbekdjgmmbaa
