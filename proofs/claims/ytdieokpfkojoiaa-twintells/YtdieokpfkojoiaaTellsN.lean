/-
  TwinTells: what its last two loops do.
-/
import Derived.Test.YtdieokpfkojoiaaTellsM
import Derived.Test.YtdieokpfkojoiaaTellsAdd
import Derived.Test.YtdieokpfkojoiaaLater
namespace Go.Proofs.Ytdieokpfkojoiaa
open Go.RowKit

/-- Did one of the first 'j' rooms lie behind 'x'? -/
def putTo (l : List Room) (x : Room) : Nat → Bool
  | 0 => false
  | j + 1 => putTo l x j || decide (x.1 < (nthG l j).1)
/-- The first 'j' rooms, with 'x' ahead of the first that lies behind it. -/
def takeTo (l : List Room) (x : Room) : Nat → List Room
  | 0 => []
  | j + 1 => (if putTo l x j = true then takeTo l x j else if x.1 < (nthG l j).1 then takeTo l x j ++ [x] else takeTo l x j) ++ [nthG l j]
section
variable {l : List Room} {x : Room} {j : Nat}
theorem takeTo_len : ∀ j, (takeTo l x j).length ≤ 2 * j
  | 0 => Nat.le_refl _
  | j + 1 => by
    have := takeTo_len j
    rw [takeTo]
    split
    · simp; omega
    · split
      · simp; omega
      · simp; omega
theorem step_gt_put (hp : putTo l x j = true) : putTo l x (j + 1) = true ∧ takeTo l x (j + 1) = takeTo l x j ++ [nthG l j] := by
  rw [putTo, takeTo, if_pos hp, hp]
  exact ⟨rfl, rfl⟩
theorem step_gt_no (h : x.1 < (nthG l j).1) (hp : putTo l x j = false) : putTo l x (j + 1) = true ∧ takeTo l x (j + 1) = (takeTo l x j ++ [x]) ++ [nthG l j] := by
  rw [putTo, takeTo, if_neg (by rw [hp]; decide), if_pos h, hp, decide_eq_true h]
  exact ⟨rfl, rfl⟩
theorem step_le (h : ¬ x.1 < (nthG l j).1) : putTo l x (j + 1) = putTo l x j ∧ takeTo l x (j + 1) = takeTo l x j ++ [nthG l j] := by
  rw [putTo, takeTo, decide_eq_false h, Bool.or_false]
  refine ⟨rfl, ?_⟩
  rw [if_neg h]
  split <;> rfl
theorem takeTo_ins (hne : ∀ r ∈ l, r.1 ≠ x.1) : ∀ j, j ≤ l.length → insL x l = takeTo l x j ++ (if putTo l x j = true then l.drop j else insL x (l.drop j))
  | 0, _ => by simp [takeTo, putTo]
  | j + 1, hj => by
    have ih := takeTo_ins hne j (by omega)
    have hd : l.drop j = nthG l j :: l.drop (j + 1) := by rw [nthG_get _ _ (by omega)]; exact List.drop_eq_getElem_cons (by omega)
    have hn := hne (nthG l j) (by rw [nthG_get _ _ (by omega)]; exact List.getElem_mem _)
    rw [ih, hd]
    by_cases hg : x.1 < (nthG l j).1
    · cases hp : putTo l x j
      · obtain ⟨e1, e2⟩ := step_gt_no hg hp
        rw [e1, e2, if_neg (by decide), if_pos rfl, insL, if_neg (by omega)]
        simp
      · obtain ⟨e1, e2⟩ := step_gt_put hp
        rw [e1, e2, if_pos rfl, if_pos rfl]
        simp
    · obtain ⟨e1, e2⟩ := step_le hg
      rw [e1, e2]
      cases hp : putTo l x j
      · rw [if_neg (by decide), if_neg (by decide), insL, if_pos (by omega)]
        simp
      · rw [if_pos rfl, if_pos rfl]
        simp
theorem takeEnd_put (hne : ∀ r ∈ l, r.1 ≠ x.1) (h : putTo l x l.length = true) : takeTo l x l.length = insL x l := by
  have := takeTo_ins hne l.length (Nat.le_refl _)
  rw [this, if_pos h, List.drop_length, List.append_nil]
theorem takeEnd_no (hne : ∀ r ∈ l, r.1 ≠ x.1) (h : putTo l x l.length = false) : takeTo l x l.length ++ [x] = insL x l := by
  have := takeTo_ins hne l.length (Nat.le_refl _)
  rw [this, if_neg (by rw [h]; decide), List.drop_length]
  rfl
end
theorem pw_short {M : Int} {q mm : Nat} (h : (pw mm : Int) < 2 * M) (hq : q < mm) : (pw q : Int) < M := by
  obtain ⟨r, rfl⟩ : ∃ r, mm = r + 1 := ⟨mm - 1, by omega⟩
  rw [pw_succ] at h
  have := pw_le (by omega : q ≤ r)
  omega
/-- The number in a cell. -/
def cellN (w : World) (a : Addr) : Nat := match w.cell? a with | some (.int _ q) => q.toNat | _ => 0
theorem cellN_box {w : World} {g : Nat} {t : TypeId} {q : Int} (h : Box w g t #[.int .i64 q]) : cellN w ⟨g, 0, none⟩ = q.toNat := by
  have : w.cell? ⟨g, 0, none⟩ = some (.int .i64 q) := h.cell 0
  simp [cellN, this]

/-- 'x.f = append(x.f, r)', x a variable in a block of its own. -/
theorem push_room (k : Int) (A32 : Option Addr) (N32 c32 g32 base : Nat) (xs : List Room) (r : Room) (W : World) (h32 : Box W g32 24 #[.int .i64 k, .slice A32 N32 c32]) (hO : OwnG roomC 3 42 W base (.slice A32 N32 c32) xs) (hg : g32 < base) (hb : base ≤ W.heap.size) (hxs : xs.length ≤ 1000) :
    ∃ A' N' c' w8, Sem.run Try.prog (Builtin.append_ #[22, 22] 22 #[.slice A32 N32 c32, .slice (some ⟨W.heap.size, 0, none⟩) 1 1]) (W.alloc (.cells #[.int .i64 r.1, .int .i64 r.2.1, .int .i64 r.2.2] 42)) = .ok (.slice A' N' c') w8 ∧
      w8.cell? ⟨g32, 1, none⟩ = some (.slice A32 N32 c32) ∧ w8.frozen? ⟨g32, 1, none⟩ = false ∧ Box (w8.setCell ⟨g32, 1, none⟩ (.slice A' N' c')) g32 24 #[.int .i64 k, .slice A' N' c'] ∧
      OwnG roomC 3 42 (w8.setCell ⟨g32, 1, none⟩ (.slice A' N' c')) base (.slice A' N' c') (xs ++ [r]) ∧ Below g32 W (w8.setCell ⟨g32, 1, none⟩ (.slice A' N' c')) ∧
      ∀ G t cs, Box W G t cs → G < base → G ≠ g32 → Box (w8.setCell ⟨g32, 1, none⟩ (.slice A' N' c')) G t cs := by
  obtain ⟨v', w8, hrun, hO', hB'⟩ := hO.push (P := Try.prog) (t := 22) (ty := 22) roomC_len roomC_one (by omega) Try.underlying22 roomI rfl (by omega) r (by omega) hb
  obtain ⟨A', c', rfl, _, _⟩ := hO'.arr roomC_len
  have q32 := h32.below hB' hg
  exact ⟨A', _, c', w8, hrun, q32.cell 1, q32.soft 1, q32.set 1 _, hO'.setOther hg 1 _, below_set (hB'.mono (by omega)) (Nat.le_refl _) 1 _, fun G t cs h1 h2 h3 => (h1.below hB' h2).setOther h3 1 _⟩
end Go.Proofs.Ytdieokpfkojoiaa
