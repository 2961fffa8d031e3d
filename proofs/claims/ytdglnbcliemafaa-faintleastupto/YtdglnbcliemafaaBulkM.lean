/-
  What a bound on all that comes in says of one slice.
-/
import Derived.Test.YtdglnbcliemafaaRows
namespace Go.Proofs.Ytdglnbcliemafaa

theorem bulk_part {H : Type} {N : Nat} : ∀ {l : List (DataW H)}, Rows.uptoBulkAll l ≤ N → ∀ {d : DataW H}, d ∈ l → Rows.uptoBulk d ≤ N
  | x :: r, h, d, hd => by
    rw [Rows.uptoBulkAll] at h
    rcases List.mem_cons.1 hd with rfl | hd
    · omega
    · exact bulk_part (l := r) (by omega) hd
theorem bulk_pos {H : Type} (d : DataW H) : 0 < Rows.uptoBulk d := by
  cases d with
  | lit l => cases l <;> simp [Rows.uptoBulk]
  | _ => simp [Rows.uptoBulk]
theorem bulk_many {H : Type} : ∀ l : List (DataW H), l.length ≤ Rows.uptoBulkAll l
  | [] => Nat.zero_le _
  | x :: r => by
    have h1 := bulk_pos x
    have h2 := bulk_many r
    rw [Rows.uptoBulkAll, List.length_cons]
    omega
theorem bulk_slice {H : Type} (l r : List (DataW H)) : l.length + r.length ≤ Rows.uptoBulk (.slice l r) := by
  have h1 := bulk_many l
  have h2 := bulk_many r
  rw [Rows.uptoBulk]
  omega
end Go.Proofs.Ytdglnbcliemafaa
