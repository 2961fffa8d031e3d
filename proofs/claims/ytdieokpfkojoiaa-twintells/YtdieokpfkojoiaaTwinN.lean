/-
  What is taken, and that the halves are right behind it; contract of the law's 'twins'.
-/
import Derived.Test.YtdieokpfkojoiaaTwinH
import Derived.Test.YtdieokpfkojoiaaHalvesArg
namespace Go.Proofs.Ytdieokpfkojoiaa
open Go.RowKit

structure Taking (o : Int) (l : List Room) (n : Int) (k p b i m : Nat) : Prop where
  order : o = k
  right : Right k l
  ok : hErr k l = 0
  lo : 1 ≤ n
  hi : n ≤ pw k
  pick : pickTo less (freeL l k 0) n (freeL l k 0).length = p
  lt : p < (freeL l k 0).length
  gap : nthG (freeL l k 0) p = ((b : Int), ((pw i : Nat) : Int))
  free : Free l k 0 ((b : Int), ((pw i : Nat) : Int)) b i
  fits : n ≤ pw i
  half : m = halveL n i
  taken : takenR k l n = ((b : Int), ((pw m : Nat) : Int), n)
theorem takeE_zero {o : Int} {l : List Room} {n : Int} (h : takeE o l n = 0) : ∃ k p b i m, Taking o l n k p b i m := by
  rcases hErr_cases o l with ⟨h0, k, rfl, hk, hok⟩ | ⟨h0, _⟩
  · rw [takeE_ok h0] at h
    by_cases hm : n < 1 ∨ (pw k : Int) < n
    · rw [if_pos hm] at h; cases h
    · rw [if_neg hm] at h
      obtain ⟨_, _, h3⟩ := chooseE_zero h
      obtain ⟨p, hp⟩ := Int.eq_ofNat_of_zero_le h3
      obtain ⟨hlt, b, i, hg, hf, hn, ht⟩ := taken_facts hp
      exact ⟨k, p, b, i, _, rfl, (right_iff hk).1 hok, h0, by omega, by omega, hp, hlt, hg, hf, hn, rfl, ht⟩
  · unfold takeE at h
    rw [if_neg h0] at h
    exact absurd h h0
section
variable {o : Int} {l : List Room} {n : Int} {k p b i m : Nat}
theorem Taking.le (h : Taking o l n k p b i m) : m ≤ i := by rw [h.half]; exact halveL_le n i
theorem Taking.size (h : Taking o l n k p b i m) : n ≤ pw m ∧ (pw m : Int) < 2 * n := by rw [h.half]; exact halveL_fits h.lo i h.fits
theorem Taking.inside (h : Taking o l n k p b i m) : b + pw m ≤ pw k := by
  have := h.free.hi
  have := pw_le h.le
  omega
theorem Taking.align (h : Taking o l n k p b i m) : pw m ∣ b := Nat.dvd_trans (pw_dvd h.le) (h.free.align (Nat.dvd_zero _))
theorem Taking.nohit (h : Taking o l n k p b i m) : hit l b (pw m) = false := by
  have := pw_le h.le
  exact hit_none h.free.free (by omega) (by omega)
theorem Taking.good (h : Taking o l n k p b i m) : Good k ((b : Int), ((pw m : Nat) : Int), n) :=
  ⟨b, m, rfl, rfl, Nat.le_trans h.le h.free.le, h.align, h.inside, h.size.1, h.size.2⟩
theorem Taking.after (h : Taking o l n k p b i m) : Right k (insL ((b : Int), ((pw m : Nat) : Int), n) l) :=
  ⟨h.right.small, fun r hr => by
    rcases mem_insL.1 hr with rfl | hr
    · exact h.good
    · exact h.right.good r hr, insL_apart h.right.apart (fun r hr => (h.right.good r hr).pos.2.1) h.good.pos.2.1 (hit_false.1 h.nohit)⟩
theorem Taking.other (h : Taking o l n k p b i m) : ∀ r ∈ l, r.1 ≠ (b : Int) := fun r hr e => by
  have h1 := hit_false.1 h.nohit r hr
  have h2 := (h.right.good r hr).pos
  have := pw_pos m
  omega
end
theorem Right.wf {k : Nat} {l : List Room} (h : Right k l) : ∀ j, j < l.length → wf3 (nthG l j) := fun j hj => by
  rw [nthG_get _ _ hj]
  have hp := (h.good _ (List.getElem_mem hj)).pos
  have := pw_256 h.small
  unfold wf3
  rw [wf_i64, wf_i64, wf_i64]
  omega
theorem Right.ok {k : Nat} {l : List Room} (h : Right k l) : hErr k l = 0 := hErr_ok h.small ((right_iff h.small).2 h)
theorem OwnG.rooms {k : Nat} {l : List Room} {w : World} {base : Nat} {A : Option Addr} {N c : Nat} {e : TypeId} (h : OwnG roomC 3 e w base (.slice A N c) l) (hr : Right k l) : N = l.length ∧ N ≤ c ∧ RoomsIn w A N l := by
  obtain ⟨A', c', hv, hc, ha⟩ := h.arr roomC_len
  injection hv with e1 e2 e3
  subst e1 e2 e3
  have := hr.len
  have := pw_256 hr.small
  exact ⟨rfl, hc, by unfold maxLen; omega, ha, hr.wf⟩

end Go.Proofs.Ytdieokpfkojoiaa
