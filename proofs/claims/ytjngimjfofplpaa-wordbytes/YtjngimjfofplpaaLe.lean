/-
  Plain arithmetic: a word's eight bytes, least significant first, and back. Over no program.
-/
import Derived.Test.YtjngimjfofplpaaBase
namespace Go.Proofs.Ytjngimjfofplpaa

/-- The first 'm' bytes of a word. -/
def b8 : Int → Nat → List Int
  | _, 0 => []
  | x, m + 1 => x % 256 :: b8 (x / 256) m
/-- The word of bytes. -/
def leVal : List Int → Int
  | [] => 0
  | b :: r => b + 256 * leVal r
/-- The bytes of words. -/
def bytesL (zs : List Int) : List Int := zs.flatMap (fun z => b8 z 8)

theorem b8_length (x : Int) (m : Nat) : (b8 x m).length = m := by
  induction m generalizing x with
  | zero => rfl
  | succ m ih => simp [b8, ih]
theorem b8_snoc (x : Int) (m : Nat) : b8 x (m + 1) = b8 x m ++ [x / 256 ^ m % 256] := by
  induction m generalizing x with
  | zero => simp [b8]
  | succ m ih =>
    rw [b8, ih, b8]
    simp only [List.cons_append]
    congr 3
    rw [Int.ediv_ediv_of_nonneg (by decide)]
    congr 2
    rw [Int.pow_succ, Int.mul_comm]
theorem b8_bound (x : Int) (m : Nat) : ∀ b ∈ b8 x m, 0 ≤ b ∧ b ≤ 255 := by
  induction m generalizing x with
  | zero => intro b hb; cases hb
  | succ m ih =>
    intro b hb
    rcases List.mem_cons.1 hb with h | h
    · omega
    · exact ih _ b h
theorem leVal_b8 (x : Int) (m : Nat) : leVal (b8 x m) = x % 256 ^ m := by
  induction m generalizing x with
  | zero => simp [b8, leVal, Int.emod_one]
  | succ m ih =>
    rw [b8, leVal, ih, Int.pow_succ]
    have h1 := Int.mul_ediv_add_emod x 256
    have h2 := Int.mul_ediv_add_emod (x / 256) (256 ^ m)
    have hp : (0 : Int) < 256 ^ m := Int.pow_pos (by decide)
    have h3 := Int.emod_nonneg (x / 256) (Int.ne_of_gt hp)
    have h4 := Int.emod_lt_of_pos (x / 256) hp
    have h5 := Int.emod_nonneg x (by decide : (256 : Int) ≠ 0)
    have h6 := Int.emod_lt_of_pos x (by decide : (0 : Int) < 256)
    generalize hq : x / 256 / 256 ^ m = q at *
    generalize hr : x / 256 % 256 ^ m = r at *
    have e : x = (x % 256 + 256 * r) + (256 ^ m * 256) * q := by
      have : x = 256 * (256 ^ m * q + r) + x % 256 := by rw [h2]; exact h1.symm
      calc x = 256 * (256 ^ m * q + r) + x % 256 := this
        _ = (x % 256 + 256 * r) + (256 ^ m * 256) * q := by
          rw [Int.mul_add, ← Int.mul_assoc, Int.mul_comm 256 (256 ^ m)]
          omega
    have hlt : x % 256 + 256 * r < 256 ^ m * 256 := by
      have : r + 1 ≤ 256 ^ m := h4
      have := Int.mul_le_mul_of_nonneg_right this (by decide : (0 : Int) ≤ 256)
      rw [Int.add_mul] at this
      omega
    conv => rhs; rw [e]
    rw [Int.add_mul_emod_self_left, Int.emod_eq_of_lt (by omega) hlt]
theorem b8_leVal (bs : List Int) (h : ∀ b ∈ bs, 0 ≤ b ∧ b ≤ 255) : b8 (leVal bs) bs.length = bs := by
  induction bs with
  | nil => rfl
  | cons b r ih =>
    have hb := h b (by simp)
    have e1 : (b + 256 * leVal r) % 256 = b := by omega
    have e2 : (b + 256 * leVal r) / 256 = leVal r := by omega
    simp only [leVal, List.length_cons, b8, e1, e2]
    rw [ih (fun x hx => h x (by simp [hx]))]
theorem leVal_bound (bs : List Int) (h : ∀ b ∈ bs, 0 ≤ b ∧ b ≤ 255) : 0 ≤ leVal bs ∧ leVal bs < 256 ^ bs.length := by
  induction bs with
  | nil => simp [leVal]
  | cons b r ih =>
    have hb := h b (by simp)
    have hr := ih (fun x hx => h x (by simp [hx]))
    simp only [leVal, List.length_cons, Int.pow_succ]
    omega
theorem bytesL_length (zs : List Int) : (bytesL zs).length = 8 * zs.length := by
  induction zs with
  | nil => rfl
  | cons z r ih =>
    unfold bytesL at ih ⊢
    simp only [List.flatMap_cons, List.length_append, ih, b8_length, List.length_cons]
    omega
theorem take_snoc (zs : List Int) (k : Nat) (h : k < zs.length) : zs.take (k + 1) = zs.take k ++ [nth zs k] := by
  rw [List.take_succ_eq_append_getElem h, nth_get _ _ h]
theorem bytesL_take (zs : List Int) (k : Nat) (h : k < zs.length) : bytesL (zs.take (k + 1)) = bytesL (zs.take k) ++ b8 (nth zs k) 8 := by
  rw [take_snoc zs k h]
  simp [bytesL]
theorem bytesL_bound (zs : List Int) : ∀ b ∈ bytesL zs, 0 ≤ b ∧ b ≤ 255 := by
  intro b hb
  obtain ⟨z, _, h⟩ := List.mem_flatMap.1 hb
  exact b8_bound z 8 b h
theorem shr8 (y : Int) (m : Nat) (X : Int) (h : y = X / 256 ^ m) : y / 256 = X / 256 ^ (m + 1) := by
  rw [h, Int.pow_succ, ← Int.ediv_ediv_of_nonneg (Int.le_of_lt (Int.pow_pos (by decide)))]
theorem wf_u8 {z : Int} : (Lit.int .u8 z).wf = true ↔ 0 ≤ z ∧ z ≤ 255 := by
  simp [Lit.wf, IntKind.min, IntKind.max, IntKind.signed, IntKind.bits]
/-- The words of bytes, eight by eight. -/
def wordsL : Nat → List Int → List Int
  | 0, _ => []
  | m + 1, bs => leVal (bs.take 8) :: wordsL m (bs.drop 8)
theorem wordsL_length (m : Nat) (bs : List Int) : (wordsL m bs).length = m := by
  induction m generalizing bs with
  | zero => rfl
  | succ m ih => simp [wordsL, ih]
theorem wordsL_nth (m : Nat) (bs : List Int) (i : Nat) (h : i < m) : nth (wordsL m bs) i = leVal ((bs.drop (8 * i)).take 8) := by
  induction m generalizing bs i with
  | zero => omega
  | succ m ih =>
    cases i with
    | zero => simp [wordsL, nth]
    | succ i =>
      have := ih (bs.drop 8) i (by omega)
      simp only [wordsL, nth, List.getD_cons_succ]
      rw [List.drop_drop] at this
      unfold nth at this
      rw [this]
      congr 3
      omega
theorem bytesL_wordsL (m : Nat) (bs : List Int) (hl : bs.length = 8 * m) (h : ∀ b ∈ bs, 0 ≤ b ∧ b ≤ 255) : bytesL (wordsL m bs) = bs := by
  induction m generalizing bs with
  | zero =>
    have : bs = [] := List.eq_nil_of_length_eq_zero (by omega)
    subst this
    rfl
  | succ m ih =>
    have h1 := ih (bs.drop 8) (by simp; omega) (fun b hb => h b (List.mem_of_mem_drop hb))
    unfold bytesL at h1 ⊢
    have h2 := b8_leVal (bs.take 8) (fun b hb => h b (List.mem_of_mem_take hb))
    have hl8 : (bs.take 8).length = 8 := by simp; omega
    rw [hl8] at h2
    simp only [wordsL, List.flatMap_cons, h1, h2, List.take_append_drop]
theorem wordsL_bytesL (zs : List Int) (h : ∀ z ∈ zs, (Lit.int .u64 z).wf = true) : wordsL zs.length (bytesL zs) = zs := by
  induction zs with
  | nil => rfl
  | cons z r ih =>
    have hz := wf_u64.1 (h z (by simp))
    have h1 := ih (fun x hx => h x (by simp [hx]))
    have e : bytesL (z :: r) = b8 z 8 ++ bytesL r := by simp [bytesL]
    have hl : (b8 z 8).length = 8 := b8_length z 8
    simp only [List.length_cons, wordsL, e]
    rw [List.take_left' hl, List.drop_left' hl, h1, leVal_b8, Int.emod_eq_of_lt hz.1 (by have := hz.2; show z < 256 ^ 8; omega)]
theorem pow256 (n : Nat) (h : n ≤ 8) : (256 : Int) ^ n ≤ 18446744073709551616 := by
  have : n = 0 ∨ n = 1 ∨ n = 2 ∨ n = 3 ∨ n = 4 ∨ n = 5 ∨ n = 6 ∨ n = 7 ∨ n = 8 := by omega
  rcases this with rfl | rfl | rfl | rfl | rfl | rfl | rfl | rfl | rfl <;> decide
theorem wordsL_wf (m : Nat) (bs : List Int) (h : ∀ b ∈ bs, 0 ≤ b ∧ b ≤ 255) : ∀ z ∈ wordsL m bs, (Lit.int .u64 z).wf = true := by
  induction m generalizing bs with
  | zero => intro z hz; cases hz
  | succ m ih =>
    intro z hz
    rcases List.mem_cons.1 hz with h1 | h1
    · rw [h1, wf_u64]
      have h2 := leVal_bound (bs.take 8) (fun b hb => h b (List.mem_of_mem_take hb))
      have h3 : (bs.take 8).length ≤ 8 := by simp; omega
      have h4 := pow256 _ h3
      omega
    · exact ih _ (fun b hb => h b (List.mem_of_mem_drop hb)) z h1
end Go.Proofs.Ytjngimjfofplpaa
