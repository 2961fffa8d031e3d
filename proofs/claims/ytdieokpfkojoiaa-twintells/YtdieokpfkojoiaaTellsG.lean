/-
  The walk of TwinTells: whatever the arguments and the memory, the call returns true and changes nothing that was there.
-/
import Derived.Test.YtdieokpfkojoiaaTellsC
import Derived.Test.YtdieokpfkojoiaaTellsD
import Derived.Test.YtdieokpfkojoiaaTellsE
import Derived.Test.YtdieokpfkojoiaaTellsF
namespace Go.Proofs.Ytdieokpfkojoiaa
open Go.RowKit

theorem twinTells_walk (o : Int) (A : Option Addr) (n c : Nat) (l : List Room) (ord m at_ : Int) (w : World) (hH : HalvesIn w A n c l) :
    Calls Try.prog 3 #[.agg #[.int .i64 o, .slice A n c], .int .i64 ord, .int .i64 m, .int .i64 at_] w fun e w' => e = .returned (.bool true) ∧ Below w.heap.size w w' := by
  rcases hErr_cases o l with ⟨h0, k, rfl, hk, hok⟩ | ⟨h0, _⟩
  · have hrt := (right_iff hk).1 hok
    by_cases hm : m < 1 ∨ (pw k : Int) < m
    · exact tells_range k A n c l ord m at_ w hH k rfl hrt hm
    · by_cases hf : pickTo less (freeL l k 0) m (freeL l k 0).length < 0
      · exact tells_full k A n c l ord m at_ w hH k rfl hrt hm hf
      · have hE : takeE (k : Int) l m = 0 := by
          rw [takeE_ok h0, if_neg hm]
          unfold chooseE
          rw [if_neg (by omega), if_neg (by rw [freeL_valid]; decide), if_neg hf]
        obtain ⟨k', pk, bb, ii, mm, hT⟩ := takeE_zero hE
        obtain rfl : k = k' := by have := hT.order; omega
        exact tells_ok k A n c l ord m at_ w hH k rfl hrt hm pk bb ii mm hT
  · exact tells_bad o A n c l ord m at_ w hH h0
end Go.Proofs.Ytdieokpfkojoiaa
