/-
  The walk of WalkLays: whatever the arguments and the memory, the call returns true and changes nothing that was there.
-/
import Derived.Test.YtkhiofnihgichaaRefLaid
import Derived.Test.YtkhiofnihgichaaEq
namespace Go.Proofs.Ytkhiofnihgichaa
open Go.RowKit

set_option maxRecDepth 8000 in
set_option maxHeartbeats 1000000 in
theorem walkLays_walk (A : Option Addr) (N c : Nat) (n : Int) (raws : List Raw) (os : List Ob) (w : World) (hn : (Lit.int .i64 n).wf = true) (hN : N ≤ 140737488355328) (hv : ObsAt w 0 w.heap.size A N raws os) (hs : ∀ j, j < N → (nthG raws j).rn ≤ maxLen ∧ (nthG raws j).bn ≤ maxLen) :
    Calls Try.prog 4 #[.slice A N c, .int .i64 n] w fun e w' => e = .returned (.bool true) ∧ Below w.heap.size w w' := by
  have HC := Lib.hid (Lay_any A N c w.heap.size 0 n raws os w hn hN (Nat.le_refl _) hv hs)
  have HV := Lib.hid hv
  have HS := Lib.hid hs
  clear hv hs hn
  go_enter Try.func4, Try.ntmps4
  go_wp2_with fail
  refine HC.out.mono ?_
  rintro e w1 ⟨b1, A1, k1, c1, rfl, hc1, h1⟩
  have HB1 := Lib.hid b1
  have H1 := Lib.hid h1
  clear b1 h1 hc1 HC
  by_cases hbig : 60 < N
  · have hbig' : (60 : Int) < N := by omega
    go_wp2
    go_ret
    exact ⟨rfl, HB1.out⟩
  · have hbig' : ¬ (60 : Int) < N := by omega
    have hb := HB1.out
    have HL := Lib.hid (Laid_any A N c w.heap.size 0 n raws os w1 (by omega) hb.size ⟨HV.out.1, HV.out.2.1.below hb (Nat.le_refl _), fun j hj => (HV.out.2.2 j hj).below hb (Nat.le_refl _)⟩ HS.out)
    clear hb
    go_wp2_with fail
    refine HL.out.mono ?_
    rintro e w2 ⟨b2, A2, k2, c2, rfl, hc2, h2⟩
    have HEQ : Hid (Calls Try.prog 19 #[.slice A1 k1 c1, .slice A2 k2 c2] w2 fun e w' => e = .returned (.bool true) ∧ ∃ q, w2.drewN q = w') := by
      rcases H1.out with ⟨hz, rfl⟩ | ⟨hz, hk, ha⟩
      · rcases h2 with ⟨_, rfl⟩ | ⟨hz', _⟩
        · exact (equalWords A1 A2 0 0 c1 c2 0 [] [] w2 Arr.zero Arr.zero (Nat.zero_le _) (Nat.zero_le _)).mono fun e w' h => ⟨by rw [h.1]; rfl, h.2⟩
        · exact absurd hz' hz
      · rcases h2 with ⟨hz', _⟩ | ⟨_, hk', ha'⟩
        · exact absurd hz hz'
        · have hlen : k1 ≤ maxLen := by
            rw [hk]
            have h0 : ¬ (n < 0 ∨ 256 < n) := fun h => by rw [layErr_range h] at hz; cases hz
            obtain ⟨q, rfl⟩ := Int.eq_ofNat_of_zero_le (show 0 ≤ n by omega)
            unfold layWords layObs
            rw [flat_words_len, List.map_append, List.sum_append]
            have hp : pErr os q = 0 := by
              by_cases hp : pErr os q = 0
              · exact hp
              · rw [layErr_place (by omega) hp] at hz; exact absurd hz hp
            obtain ⟨_, ht⟩ := pErr_zero hp
            have e1 : (os.map oLong).sum = offs os os.length := by unfold offs; rw [List.take_length]
            have e2 : ((restObs ((q : Int).toNat - offs os os.length)).map oLong).sum ≤ 257 := by
              unfold restObs
              split
              · simp
              · simp [oLong]; omega
            rw [e1]
            simp only [Int.toNat_natCast] at e2 ⊢
            unfold maxLen
            omega
          rw [← hk'] at hk
          subst hk
          exact (equalWords A1 A2 _ _ c1 c2 w2.heap.size _ _ w2 ((ha.below b2 (Nat.le_refl _)).more b2.size) ha' hlen hlen).mono fun e w' h => ⟨by rw [h.1]; simp, h.2⟩
    have HB2 := Lib.hid (HB1.out.trans (b2.mono HB1.out.size))
    have hee : (layErr os n == layErr os n) = true := by simp
    clear b2 h2 hc2 HL H1
    generalize layErr os n = E at *
    go_wp2_with fail
    refine HEQ.out.mono ?_
    rintro e w3 ⟨rfl, q, rfl⟩
    go_wp2
    go_ret
    exact ⟨rfl, below_drewN HB2.out q⟩
end Go.Proofs.Ytkhiofnihgichaa
