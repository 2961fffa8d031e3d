/-
  Plain mathematics, over no program: counting places that a rule marks, and the count of set bits of a 64-bit word as math/bits reckons it.
-/
import Derived.Test.YtknbbondofijeaaBase
import Derived.Laws.BitsAllLaws
namespace Go.Proofs.Ytknbbondofijeaa
open Go.RowKit

/-- How many of the 'l' numbers from 'a' on the rule 'f' marks. -/
def cnt (f : Nat → Bool) (a : Nat) : Nat → Nat
  | 0 => 0
  | l + 1 => cnt f a l + if f (a + l) then 1 else 0
theorem cnt_add (f : Nat → Bool) (a l m : Nat) : cnt f a (l + m) = cnt f a l + cnt f (a + l) m := by
  induction m with
  | zero => rfl
  | succ m ih => rw [← Nat.add_assoc]; simp only [cnt, ih, Nat.add_assoc]
theorem cnt_congr {f g : Nat → Bool} {a b : Nat} : ∀ l, (∀ k, k < l → f (a + k) = g (b + k)) → cnt f a l = cnt g b l
  | 0, _ => rfl
  | l + 1, h => by simp only [cnt]; rw [cnt_congr l (fun k hk => h k (by omega)), h l (by omega)]
theorem cnt_none {f : Nat → Bool} {a : Nat} : ∀ l, (∀ k, k < l → f (a + k) = false) → cnt f a l = 0
  | 0, _ => rfl
  | l + 1, h => by simp only [cnt]; rw [cnt_none l (fun k hk => h k (by omega)), h l (by omega)]; rfl
theorem cnt_le (f : Nat → Bool) (a : Nat) : ∀ l, cnt f a l ≤ l
  | 0 => Nat.le_refl _
  | l + 1 => by have := cnt_le f a l; simp only [cnt]; split <;> omega

/-- How many bits of a 64-bit word are set. -/
def pop (x : Nat) : Nat := cnt x.testBit 0 64

theorem and_step (q r M m : Nat) (hr : r < 256) (hm : m < 256) : (256 * q + r) &&& (256 * M + m) = 256 * (q &&& M) + (r &&& m) := by
  apply Nat.eq_of_testBit_eq
  intro j
  have hrm : r &&& m < 2 ^ 8 := Nat.and_lt_two_pow _ (by omega)
  rw [Nat.testBit_and, show 256 = 2 ^ 8 from rfl, Nat.testBit_two_pow_mul_add q (by omega), Nat.testBit_two_pow_mul_add M (by omega), Nat.testBit_two_pow_mul_add _ hrm]
  split <;> simp
theorem cnt_byte (q r l : Nat) (hr : r < 256) : cnt (256 * q + r).testBit 0 (8 + l) = cnt r.testBit 0 8 + cnt q.testBit 0 l := by
  rw [cnt_add]
  congr 1
  · apply cnt_congr
    intro k hk
    rw [show 256 = 2 ^ 8 from rfl, Nat.testBit_two_pow_mul_add q (by omega), if_pos (by omega)]
  · apply cnt_congr
    intro k hk
    rw [show 256 = 2 ^ 8 from rfl, Nat.testBit_two_pow_mul_add q (by omega), if_neg (by omega)]
    congr 1
    omega

/-- The byte 'c', 'n' times over. -/
def reps : Nat → Nat → Nat
  | 0, _ => 0
  | n + 1, c => 256 * reps n c + c
def sA (n x : Nat) : Nat := (x / 2 &&& reps n 85) + (x &&& reps n 85)
def sB (n x : Nat) : Nat := (x / 4 &&& reps n 51) + (x &&& reps n 51)
def sC (n x : Nat) : Nat := (x / 16 + x) &&& reps n 15
theorem lowA : ∀ c : Fin 2, ∀ r : Fin 256, (128 * c.val + r.val / 2) &&& 85 = r.val / 2 &&& 85 := by decide +kernel
theorem lowB : ∀ c : Fin 4, ∀ r : Fin 256, (64 * c.val + r.val / 4) &&& 51 = r.val / 4 &&& 51 := by decide +kernel
theorem sA_step (n q r : Nat) (hr : r < 256) : sA (n + 1) (256 * q + r) = 256 * sA n q + sA 1 r := by
  have e : (256 * q + r) / 2 = 256 * (q / 2) + (128 * (q % 2) + r / 2) := by omega
  have h := lowA ⟨q % 2, by omega⟩ ⟨r, hr⟩
  simp only at h
  simp only [sA, reps, Nat.mul_zero, Nat.zero_add]
  rw [e, and_step _ _ _ _ (by omega) (by omega), and_step _ _ _ _ hr (by omega), h]
  omega
theorem sB_step (n q r : Nat) (hr : r < 256) : sB (n + 1) (256 * q + r) = 256 * sB n q + sB 1 r := by
  have e : (256 * q + r) / 4 = 256 * (q / 4) + (64 * (q % 4) + r / 4) := by omega
  have h := lowB ⟨q % 4, by omega⟩ ⟨r, hr⟩
  simp only at h
  simp only [sB, reps, Nat.mul_zero, Nat.zero_add]
  rw [e, and_step _ _ _ _ (by omega) (by omega), and_step _ _ _ _ hr (by omega), h]
  omega
theorem sC_step (n q r : Nat) (hr : r ≤ 68) (hr' : r % 16 ≤ 4) (hq : q % 16 ≤ 4) : sC (n + 1) (256 * q + r) = 256 * sC n q + sC 1 r := by
  have e : (256 * q + r) / 16 + (256 * q + r) = 256 * (q / 16 + q) + (16 * (q % 16) + r / 16 + r) := by omega
  simp only [sC, reps, Nat.mul_zero, Nat.zero_add]
  rw [e, and_step _ _ _ _ (by omega) (by omega)]
  congr 1
  rw [nat_mask4, nat_mask4]
  omega
/-- Of one byte: all three steps give its number of set bits; what is between them is small. -/
theorem byteAll : ∀ r : Fin 256, sA 1 r.val < 256 ∧ sB 1 (sA 1 r.val) ≤ 68 ∧ sB 1 (sA 1 r.val) % 16 ≤ 4 ∧ sC 1 (sB 1 (sA 1 r.val)) = cnt r.val.testBit 0 8 ∧ cnt r.val.testBit 0 8 ≤ 8 := by decide +kernel
theorem sABC (n q r : Nat) (hr : r < 256) (hq : sB n (sA n q) % 16 ≤ 4) : sB (n + 1) (sA (n + 1) (256 * q + r)) % 16 ≤ 4 ∧ sC (n + 1) (sB (n + 1) (sA (n + 1) (256 * q + r))) = 256 * sC n (sB n (sA n q)) + cnt r.testBit 0 8 := by
  obtain ⟨h1, h2, h3, h4, h5⟩ := byteAll ⟨r, hr⟩
  simp only at h1 h2 h3 h4 h5
  rw [sA_step n q r hr, sB_step n _ _ h1, sC_step n _ _ h2 h3 hq, h4]
  exact ⟨by omega, rfl⟩
theorem sABC_zero (q : Nat) : sB 0 (sA 0 q) = 0 ∧ sC 0 (sB 0 (sA 0 q)) = 0 := by simp [sA, sB, sC, reps]
/-- The word behind the three first steps: the bytes' counts, a byte each. -/
theorem three (b0 b1 b2 b3 b4 b5 b6 b7 : Nat) (h0 : b0 < 256) (h1 : b1 < 256) (h2 : b2 < 256) (h3 : b3 < 256) (h4 : b4 < 256) (h5 : b5 < 256) (h6 : b6 < 256) (h7 : b7 < 256) :
    sC 8 (sB 8 (sA 8 (256 * (256 * (256 * (256 * (256 * (256 * (256 * (256 * 0 + b7) + b6) + b5) + b4) + b3) + b2) + b1) + b0))) =
      256 * (256 * (256 * (256 * (256 * (256 * (256 * (256 * 0 + cnt b7.testBit 0 8) + cnt b6.testBit 0 8) + cnt b5.testBit 0 8) + cnt b4.testBit 0 8) + cnt b3.testBit 0 8) + cnt b2.testBit 0 8) + cnt b1.testBit 0 8) + cnt b0.testBit 0 8 := by
  obtain ⟨z1, z2⟩ := sABC_zero 0
  have p7 := sABC 0 0 b7 h7 (by rw [z1]; omega)
  have p6 := sABC 1 _ b6 h6 p7.1
  have p5 := sABC 2 _ b5 h5 p6.1
  have p4 := sABC 3 _ b4 h4 p5.1
  have p3 := sABC 4 _ b3 h3 p4.1
  have p2 := sABC 5 _ b2 h2 p3.1
  have p1 := sABC 6 _ b1 h1 p2.1
  have p0 := sABC 7 _ b0 h0 p1.1
  rw [p0.2, p1.2, p2.2, p3.2, p4.2, p5.2, p6.2, p7.2, z2]
def sD (x : Nat) : Nat := x + x / 256
def sE (x : Nat) : Nat := x + x / 65536
def sF (x : Nat) : Nat := x + x / 4294967296
theorem last3 (p0 p1 p2 p3 p4 p5 p6 p7 : Nat) (h0 : p0 ≤ 8) (h1 : p1 ≤ 8) (h2 : p2 ≤ 8) (h3 : p3 ≤ 8) (h4 : p4 ≤ 8) (h5 : p5 ≤ 8) (h6 : p6 ≤ 8) (h7 : p7 ≤ 8) :
    sF (sE (sD (256 * (256 * (256 * (256 * (256 * (256 * (256 * (256 * 0 + p7) + p6) + p5) + p4) + p3) + p2) + p1) + p0))) % 128 = p0 + (p1 + (p2 + (p3 + (p4 + (p5 + (p6 + p7)))))) := by
  have e1 : sD (256 * (256 * (256 * (256 * (256 * (256 * (256 * (256 * 0 + p7) + p6) + p5) + p4) + p3) + p2) + p1) + p0) =
      256 * (256 * (256 * (256 * (256 * (256 * (256 * p7 + (p6 + p7)) + (p5 + p6)) + (p4 + p5)) + (p3 + p4)) + (p2 + p3)) + (p1 + p2)) + (p0 + p1) := by unfold sD; omega
  rw [e1]
  have e2 : sE (256 * (256 * (256 * (256 * (256 * (256 * (256 * p7 + (p6 + p7)) + (p5 + p6)) + (p4 + p5)) + (p3 + p4)) + (p2 + p3)) + (p1 + p2)) + (p0 + p1)) =
      256 * (256 * (256 * (256 * (256 * (256 * (256 * p7 + (p6 + p7)) + (p5 + p6 + p7)) + (p4 + p5 + (p6 + p7))) + (p3 + p4 + (p5 + p6))) + (p2 + p3 + (p4 + p5))) + (p1 + p2 + (p3 + p4))) + (p0 + p1 + (p2 + p3)) := by unfold sE; omega
  rw [e2]
  have e3 : ∀ u v u' v' a b : Nat, u = 256 * u' + a → v = 256 * v' + b → v < 4294967296 → a ≤ 32 → b ≤ 32 → sF (4294967296 * u + v) % 128 = a + b := by
    intro u v u' v' a b hu hv hl ha hb
    have : (4294967296 * u + v) / 4294967296 = u := by omega
    unfold sF
    rw [this]
    omega
  have e4 := e3 (256 * (256 * (256 * p7 + (p6 + p7)) + (p5 + p6 + p7)) + (p4 + p5 + (p6 + p7))) (256 * (256 * (256 * (p3 + p4 + (p5 + p6)) + (p2 + p3 + (p4 + p5))) + (p1 + p2 + (p3 + p4))) + (p0 + p1 + (p2 + p3)))
    _ _ _ _ rfl rfl (by omega) (by omega) (by omega)
  have e5 : ∀ c : Nat, 256 * (256 * (256 * (256 * c + (p3 + p4 + (p5 + p6))) + (p2 + p3 + (p4 + p5))) + (p1 + p2 + (p3 + p4))) + (p0 + p1 + (p2 + p3)) =
      4294967296 * c + (256 * (256 * (256 * (p3 + p4 + (p5 + p6)) + (p2 + p3 + (p4 + p5))) + (p1 + p2 + (p3 + p4))) + (p0 + p1 + (p2 + p3))) := by intro c; omega
  rw [e5, e4]
  omega
theorem pop_sum (b0 b1 b2 b3 b4 b5 b6 b7 : Nat) (h0 : b0 < 256) (h1 : b1 < 256) (h2 : b2 < 256) (h3 : b3 < 256) (h4 : b4 < 256) (h5 : b5 < 256) (h6 : b6 < 256) (h7 : b7 < 256) :
    pop (256 * (256 * (256 * (256 * (256 * (256 * (256 * (256 * 0 + b7) + b6) + b5) + b4) + b3) + b2) + b1) + b0) =
      cnt b0.testBit 0 8 + (cnt b1.testBit 0 8 + (cnt b2.testBit 0 8 + (cnt b3.testBit 0 8 + (cnt b4.testBit 0 8 + (cnt b5.testBit 0 8 + (cnt b6.testBit 0 8 + cnt b7.testBit 0 8)))))) := by
  unfold pop
  rw [show 64 = 8 + 56 from rfl, cnt_byte _ _ _ h0, show 56 = 8 + 48 from rfl, cnt_byte _ _ _ h1, show 48 = 8 + 40 from rfl, cnt_byte _ _ _ h2, show 40 = 8 + 32 from rfl, cnt_byte _ _ _ h3, show 32 = 8 + 24 from rfl, cnt_byte _ _ _ h4,
    show 24 = 8 + 16 from rfl, cnt_byte _ _ _ h5, show 16 = 8 + 8 from rfl, cnt_byte _ _ _ h6, show cnt (256 * 0 + b7).testBit 0 8 = cnt (256 * 0 + b7).testBit 0 (8 + 0) from rfl, cnt_byte _ _ _ h7]
  rfl
theorem ones_pop (x : Nat) (hx : x < 18446744073709551616) : sF (sE (sD (sC 8 (sB 8 (sA 8 x))))) % 128 = pop x := by
  obtain ⟨b0, b1, b2, b3, b4, b5, b6, b7, rfl, h0, h1, h2, h3, h4, h5, h6, h7⟩ : ∃ b0 b1 b2 b3 b4 b5 b6 b7 : Nat, x = 256 * (256 * (256 * (256 * (256 * (256 * (256 * (256 * 0 + b7) + b6) + b5) + b4) + b3) + b2) + b1) + b0 ∧
      b0 < 256 ∧ b1 < 256 ∧ b2 < 256 ∧ b3 < 256 ∧ b4 < 256 ∧ b5 < 256 ∧ b6 < 256 ∧ b7 < 256 :=
    ⟨x % 256, x / 256 % 256, x / 65536 % 256, x / 16777216 % 256, x / 4294967296 % 256, x / 1099511627776 % 256, x / 281474976710656 % 256, x / 72057594037927936 % 256, by omega, by omega, by omega, by omega, by omega, by omega, by omega, by omega, by omega⟩
  rw [three _ _ _ _ _ _ _ _ h0 h1 h2 h3 h4 h5 h6 h7, pop_sum _ _ _ _ _ _ _ _ h0 h1 h2 h3 h4 h5 h6 h7]
  exact last3 _ _ _ _ _ _ _ _ (byteAll ⟨b0, h0⟩).2.2.2.2 (byteAll ⟨b1, h1⟩).2.2.2.2 (byteAll ⟨b2, h2⟩).2.2.2.2 (byteAll ⟨b3, h3⟩).2.2.2.2 (byteAll ⟨b4, h4⟩).2.2.2.2 (byteAll ⟨b5, h5⟩).2.2.2.2 (byteAll ⟨b6, h6⟩).2.2.2.2 (byteAll ⟨b7, h7⟩).2.2.2.2

/-- The six steps as the walk spells them. -/
def wA (x : Int) : Int := IntKind.u64.wrap (bits .and .u64 (x / 2) 6148914691236517205 + bits .and .u64 x 6148914691236517205)
def wB (x : Int) : Int := IntKind.u64.wrap (bits .and .u64 (x / 4) 3689348814741910323 + bits .and .u64 x 3689348814741910323)
def wC (x : Int) : Int := bits .and .u64 (IntKind.u64.wrap (x / 16 + x)) 1085102592571150095
def wD (x : Int) : Int := IntKind.u64.wrap (x + x / 256)
def wE (x : Int) : Int := IntKind.u64.wrap (x + x / 65536)
def wF (x : Int) : Int := IntKind.u64.wrap (x + x / 4294967296)
theorem wA_eq (x : Nat) (hx : x < 18446744073709551616) : wA x = (sA 8 x : Nat) ∧ sA 8 x ≤ 12297829382473034410 := by
  have h1 := u64_and_nat (x / 2) 6148914691236517205 (by omega) (by omega)
  have h2 := u64_and_nat x 6148914691236517205 hx (by omega)
  have l1 : x / 2 &&& 6148914691236517205 ≤ 6148914691236517205 := Nat.and_le_right
  have l2 : x &&& 6148914691236517205 ≤ 6148914691236517205 := Nat.and_le_right
  have e : reps 8 85 = 6148914691236517205 := by decide
  unfold wA sA
  rw [e]
  constructor
  · rw [show ((x : Int) / 2) = ((x / 2 : Nat) : Int) by omega, show (6148914691236517205 : Int) = ((6148914691236517205 : Nat) : Int) from rfl, h1, h2, IntKind.wrap_u64]
    omega
  · omega
theorem wB_eq (x : Nat) (hx : x < 18446744073709551616) : wB x = (sB 8 x : Nat) ∧ sB 8 x ≤ 7378697629483820646 := by
  have h1 := u64_and_nat (x / 4) 3689348814741910323 (by omega) (by omega)
  have h2 := u64_and_nat x 3689348814741910323 hx (by omega)
  have l1 : x / 4 &&& 3689348814741910323 ≤ 3689348814741910323 := Nat.and_le_right
  have l2 : x &&& 3689348814741910323 ≤ 3689348814741910323 := Nat.and_le_right
  have e : reps 8 51 = 3689348814741910323 := by decide
  unfold wB sB
  rw [e]
  constructor
  · rw [show ((x : Int) / 4) = ((x / 4 : Nat) : Int) by omega, show (3689348814741910323 : Int) = ((3689348814741910323 : Nat) : Int) from rfl, h1, h2, IntKind.wrap_u64]
    omega
  · omega
theorem wC_eq (x : Nat) (hx : x ≤ 7378697629483820646) : wC x = (sC 8 x : Nat) ∧ sC 8 x ≤ 1085102592571150095 := by
  have h1 := u64_and_nat (x / 16 + x) 1085102592571150095 (by omega) (by omega)
  have l1 : (x / 16 + x) &&& 1085102592571150095 ≤ 1085102592571150095 := Nat.and_le_right
  have e : reps 8 15 = 1085102592571150095 := by decide
  unfold wC sC
  rw [e]
  constructor
  · rw [IntKind.wrap_u64, show ((x : Int) / 16 + x) % 18446744073709551616 = ((x / 16 + x : Nat) : Int) by omega, show (1085102592571150095 : Int) = ((1085102592571150095 : Nat) : Int) from rfl, h1]
  · omega
theorem wDEF_eq (x : Nat) (hx : x ≤ 1085102592571150095) : wF (wE (wD x)) = (sF (sE (sD x)) : Nat) ∧ sF (sE (sD x)) < 9223372036854775808 := by
  have e1 : wD x = (sD x : Nat) := by unfold wD sD; rw [IntKind.wrap_u64]; omega
  have b1 : sD x ≤ 1089341274576194901 := by unfold sD; omega
  have e2 : wE (sD x : Nat) = (sE (sD x) : Nat) := by
    generalize sD x = y at b1
    unfold wE sE; rw [IntKind.wrap_u64]; omega
  have b2 : sE (sD x) ≤ 1089357897106448000 := by
    generalize sD x = y at b1
    unfold sE; omega
  have e3 : wF (sE (sD x) : Nat) = (sF (sE (sD x)) : Nat) := by
    generalize sE (sD x) = y at b2
    unfold wF sF; rw [IntKind.wrap_u64]; omega
  refine ⟨by rw [e1, e2, e3], ?_⟩
  generalize sE (sD x) = y at b2
  unfold sF; omega
theorem walk_pop (x : Nat) (hx : x < 18446744073709551616) : wF (wE (wD (wC (wB (wA x))))) = (sF (sE (sD (sC 8 (sB 8 (sA 8 x))))) : Nat) ∧ sF (sE (sD (sC 8 (sB 8 (sA 8 x))))) < 9223372036854775808 := by
  obtain ⟨a1, a2⟩ := wA_eq x hx
  obtain ⟨b1, b2⟩ := wB_eq (sA 8 x) (by omega)
  obtain ⟨c1, c2⟩ := wC_eq (sB 8 (sA 8 x)) b2
  obtain ⟨d1, d2⟩ := wDEF_eq (sC 8 (sB 8 (sA 8 x))) c2
  exact ⟨by rw [a1, b1, c1, d1], d2⟩
theorem ofInt_i64 (a : Nat) (ha : a < 9223372036854775808) : (BitVec.ofInt 64 (a : Int)).toNat = a := by
  rw [BitVec.ofInt_natCast, BitVec.toNat_ofNat]; exact Nat.mod_eq_of_lt (by omega)
theorem i64_and_nat (a b : Nat) (ha : a < 9223372036854775808) (hb : b < 9223372036854775808) : bits .and .i64 (a : Int) (b : Int) = ((a &&& b : Nat) : Int) := by
  have hx : a &&& b < 2 ^ 63 := Nat.and_lt_two_pow _ (by omega)
  show IntKind.i64.wrap ((BitVec.ofInt 64 (a : Int) &&& BitVec.ofInt 64 (b : Int)).toNat : Int) = _
  rw [BitVec.toNat_and, ofInt_i64 a ha, ofInt_i64 b hb, IntKind.wrap_i64]
  omega
end Go.Proofs.Ytknbbondofijeaa
