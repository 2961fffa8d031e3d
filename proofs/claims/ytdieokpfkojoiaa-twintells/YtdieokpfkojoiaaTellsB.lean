/-
  TwinTells: what the walk holds of memory.
-/
import Derived.Test.YtdieokpfkojoiaaTellsA
import Derived.Test.YtdieokpfkojoiaaRefHalves
import Derived.Test.YtdieokpfkojoiaaRefHalfG
namespace Go.Proofs.Ytdieokpfkojoiaa
open Go.RowKit

/-- The variables of the law behind its first calls. -/
structure TBx (A : Option Addr) (n c : Nat) (o m x9 o11 a12 b12 o14 : Int) (A11 A14 A16 : Option Addr) (N11 c11 N14 c14 N16 : Nat) (l l11 l14 : List Room) (l16 : List (Int × Int)) (g4 G9 G11 G14 G20 : Nat) (wr : World) : Prop where
  b4 : Box wr g4 24 #[.int .i64 o, .slice A n c]
  b6 : Box wr (g4 + 1) 3 #[.int .i64 m]
  b9 : Box wr G9 24 #[.int .i64 x9, .slice none 0 0]
  b11 : Box wr G11 24 #[.int .i64 o11, .slice A11 N11 c11]
  b12 : Box wr (G11 + 1) 29 #[.int .i64 a12, .int .i64 b12]
  b14 : Box wr G14 24 #[.int .i64 o14, .slice A14 N14 c14]
  b20 : Box wr G20 24 #[.int .i64 0, .slice none 0 0]
  r : ArrG roomC 3 wr wr.heap.size A n l
  r11 : ArrG roomC 3 wr wr.heap.size A11 N11 l11
  r14 : ArrG roomC 3 wr wr.heap.size A14 N14 l14
  r16 : ArrG runC 2 wr wr.heap.size A16 N16 l16
section
variable {A : Option Addr} {n c : Nat} {o m x9 o11 a12 b12 o14 : Int} {A11 A14 A16 : Option Addr} {N11 c11 N14 c14 N16 : Nat} {l l11 l14 : List Room} {l16 : List (Int × Int)} {g4 G9 G11 G14 G20 : Nat} {wr wr' : World}
theorem TBx.below (h : TBx A n c o m x9 o11 a12 b12 o14 A11 A14 A16 N11 c11 N14 c14 N16 l l11 l14 l16 g4 G9 G11 G14 G20 wr) (hb : Below wr.heap.size wr wr') : TBx A n c o m x9 o11 a12 b12 o14 A11 A14 A16 N11 c11 N14 c14 N16 l l11 l14 l16 g4 G9 G11 G14 G20 wr' :=
  ⟨h.b4.below hb h.b4.lt, h.b6.below hb h.b6.lt, h.b9.below hb h.b9.lt, h.b11.below hb h.b11.lt, h.b12.below hb h.b12.lt, h.b14.below hb h.b14.lt, h.b20.below hb h.b20.lt,
    (h.r.below hb (Nat.le_refl _)).more hb.size, (h.r11.below hb (Nat.le_refl _)).more hb.size, (h.r14.below hb (Nat.le_refl _)).more hb.size, (h.r16.below hb (Nat.le_refl _)).more hb.size⟩
end
theorem new_range {x : Int} : hErr x [] = if x < 0 ∨ 8 < x then 4 else 0 := by
  unfold hErr
  by_cases h : x < 0 ∨ 8 < x
  · rw [if_pos h, if_pos h]
  · rw [if_neg h, if_neg h, roomsOk, if_pos rfl]
theorem newO_out {x : Int} (h : x < 0 ∨ 8 < x) : newO x = 0 ∧ hErr x [] = 4 := by
  have e : hErr x [] = 4 := by rw [new_range, if_pos h]
  exact ⟨by unfold newO; rw [e]; rfl, e⟩
theorem newO_in {x : Int} (h : ¬ (x < 0 ∨ 8 < x)) : newO x = x ∧ hErr x [] = 0 := by
  have e : hErr x [] = 0 := by rw [new_range, if_neg h]
  exact ⟨by unfold newO; rw [e]; rfl, e⟩
end Go.Proofs.Ytdieokpfkojoiaa
