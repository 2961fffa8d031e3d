/-
  HandTells: what the law compares, over no program but for its function value.
-/
import Derived.Test.YtedndmhekjfpdaaHandR
import Derived.Test.YtedndmhekjfpdaaFnWords
namespace Go.Proofs.Ytedndmhekjfpdaa
open Go.RowKit

/-- The first slot among the first 'k' that may be opened, or -1. -/
def freeTo (l : List Slt) : Nat → Int
  | 0 => -1
  | k + 1 => if freeTo l k < 0 ∧ freeN l k = true then (k : Int) else freeTo l k
theorem freeTo_yes {l : List Slt} {k : Nat} (h : freeTo l k < 0) (hf : freeN l k = true) : freeTo l (k + 1) = k := by
  conv => lhs; unfold freeTo
  rw [if_pos ⟨h, hf⟩]
theorem freeTo_off {l : List Slt} {k : Nat} (hf : freeN l k = false) : freeTo l (k + 1) = freeTo l k := by
  conv => lhs; unfold freeTo
  rw [if_neg (by rw [hf]; simp)]
theorem freeTo_had {l : List Slt} {k : Nat} (h : ¬ freeTo l k < 0) : freeTo l (k + 1) = freeTo l k := by
  conv => lhs; unfold freeTo
  rw [if_neg (by simp [h])]
theorem freeTo_none {l : List Slt} : ∀ {k : Nat}, (∀ j, j < k → freeN l j = false) → freeTo l k = -1
  | 0, _ => rfl
  | k + 1, h => by rw [freeTo_off (h k (by omega))]; exact freeTo_none fun j hj => h j (by omega)
theorem freeTo_some {l : List Slt} {p : Nat} (hf : freeN l p = true) (hb : ∀ j, j < p → freeN l j = false) : ∀ d, freeTo l (p + 1 + d) = p
  | 0 => freeTo_yes (by rw [freeTo_none hb]; decide) hf
  | d + 1 => by
    rw [← Nat.add_assoc, freeTo_had (by rw [freeTo_some hf hb d]; omega)]
    exact freeTo_some hf hb d
theorem freeTo_ge {l : List Slt} : ∀ k, -1 ≤ freeTo l k
  | 0 => by show (-1 : Int) ≤ -1; omega
  | k + 1 => by
    have := freeTo_ge (l := l) k
    unfold freeTo
    split
    · omega
    · exact this
theorem freeTo_le {l : List Slt} : ∀ k, freeTo l k < k
  | 0 => by show (-1 : Int) < 0; omega
  | k + 1 => by
    have := freeTo_le (l := l) k
    unfold freeTo
    split
    · omega
    · omega

/-- What Open answers at valid handles. -/
theorem tells_open {l : List Slt} {a : Int} (h : handE l = 0) :
    (inHand a = false ∧ openE l a = 4 ∧ openV l a = 0 ∧ openR l a = []) ∨ (inHand a = true ∧ freeTo l l.length = -1 ∧ openE l a = 7 ∧ openV l a = 0 ∧ openR l a = []) ∨
    ∃ p, p < l.length ∧ inHand a = true ∧ freeTo l l.length = p ∧ openE l a = 0 ∧ openR l a = l.set p ((nthG l p).1 + 1, true, a) ∧ openV l a = nameN p ((nthG l p).1 + 1, true, a) ∧ 0 ≤ (nthG l p).1 ∧ (nthG l p).1 < 65535 := by
  cases ha : inHand a
  · have e := open_word h ha
    refine .inl ⟨rfl, e, ?_, ?_⟩
    · unfold openV; rw [e]; rfl
    · unfold openR; rw [e]; rfl
  · rcases open_ways h ha with ⟨p, hp, hf, hb, e, hI⟩ | ⟨hno, e⟩
    · refine .inr (.inr ⟨p, hp, rfl, ?_, e, ?_, ?_, ?_, (freeN_iff.1 hf).2⟩)
      · obtain ⟨d, hd⟩ : ∃ d, l.length = p + 1 + d := ⟨l.length - (p + 1), by omega⟩
        rw [hd]; exact freeTo_some hf hb d
      · unfold openR; rw [if_pos e]; unfold openL openX; rw [hI]
      · unfold openV; rw [if_pos e]; unfold openN openX; rw [hI]
      · exact (slotE_ok.1 ((handE_ok.1 h).2 p hp)).1
    · refine .inr (.inl ⟨rfl, freeTo_none hno, e, ?_, ?_⟩)
      · unfold openV; rw [e]; rfl
      · unfold openR; rw [e]; rfl
/-- What Look and Close answer at valid handles. -/
theorem tells_find {l : List Slt} {N : Int} (h : handE l = 0) :
    (findE l N = 9 ∧ ofI l N = -1 ∧ lookV l N = 0 ∧ closeR l N = []) ∨ ∃ p, p < l.length ∧ findE l N = 0 ∧ ofI l N = p ∧ lookV l N = (nthG l p).2.2 ∧ closeR l N = l.set p ((nthG l p).1, false, 0) := by
  rcases find_ways (name := N) h with ⟨p, hp, _, _, e, hI⟩ | ⟨_, e⟩
  · refine .inr ⟨p, hp, e, ?_, ?_, ?_⟩
    · unfold ofI; rw [if_pos e, hI]
    · unfold lookV; rw [if_pos e, hI]
    · unfold closeR; rw [if_pos e]; unfold closeL; rw [hI]
  · refine .inl ⟨e, ?_, ?_, ?_⟩
    · unfold ofI; rw [if_neg (by rw [e]; decide)]
    · unfold lookV; rw [if_neg (by rw [e]; decide)]
    · unfold closeR; rw [if_neg (by rw [e]; decide)]
/-- What Swap answers at valid handles. -/
theorem tells_swap {l : List Slt} {f : List Int} (h : handE l = 0) :
    (f.length ≠ 256 ∧ swapHE l f = 3 ∧ swapR l f = []) ∨ (f.length = 256 ∧ wordsIn f = false ∧ swapHE l f = 4 ∧ swapR l f = []) ∨ (f.length = 256 ∧ wordsIn f = true ∧ swapHE l f = 0 ∧ swapR l f = swapHL l f) := by
  by_cases h1 : f.length = 256
  · cases h2 : wordsIn f
    · have e : swapHE l f = 4 := by unfold swapHE; rw [if_pos h, if_pos h1, h2]; rfl
      exact .inr (.inl ⟨h1, rfl, e, by unfold swapR; rw [if_neg (by rw [e]; decide)]⟩)
    · have e : swapHE l f = 0 := by unfold swapHE; rw [if_pos h, if_pos h1, h2]; rfl
      exact .inr (.inr ⟨h1, rfl, e, by unfold swapR; rw [if_pos e]⟩)
  · have e : swapHE l f = 3 := by unfold swapHE; rw [if_pos h, if_neg h1]
    exact .inl ⟨h1, e, by unfold swapR; rw [if_neg (by rw [e]; decide)]⟩
/-- All at handles that are not valid. -/
theorem tells_bad {l : List Slt} {a N : Int} {f : List Int} (h : handE l ≠ 0) : openE l a = handE l ∧ openV l a = 0 ∧ openR l a = [] ∧ findE l N = handE l ∧ lookV l N = 0 ∧ closeR l N = [] ∧ swapHE l f = handE l ∧ swapR l f = [] ∧ liveN l = [] := by
  have e1 := open_bad (a := a) h
  have e2 := find_bad (name := N) h
  have e3 : swapHE l f = handE l := by unfold swapHE; rw [if_neg h]
  refine ⟨e1, ?_, ?_, e2, ?_, ?_, e3, ?_, ?_⟩
  · unfold openV; rw [if_neg (by rw [e1]; exact h)]
  · unfold openR; rw [if_neg (by rw [e1]; exact h)]
  · unfold lookV; rw [if_neg (by rw [e2]; exact h)]
  · unfold closeR; rw [if_neg (by rw [e2]; exact h)]
  · unfold swapR; rw [if_neg (by rw [e3]; exact h)]
  · unfold liveN; rw [if_neg h]
/-- New's argument is not right. -/
def newBad (n : Int) : Bool := decide (n < 0 ∨ 16 < n)
theorem newBad_yes {n : Int} (h : newBad n = true) : newE n = 4 ∧ newR n = [] := by
  have h1 : n < 0 ∨ 16 < n := of_decide_eq_true h
  unfold newE newR
  rw [if_pos h1, if_pos h1]
  exact ⟨rfl, rfl⟩
theorem newBad_no {n : Int} (h : newBad n = false) : newE n = 0 ∧ ∃ k : Nat, n = k ∧ k ≤ 16 ∧ newR n = List.replicate k (0, false, 0) := by
  have h1 : ¬ (n < 0 ∨ 16 < n) := of_decide_eq_false h
  unfold newE newR
  rw [if_neg h1, if_neg h1]
  exact ⟨rfl, n.toNat, by omega, by omega, rfl⟩

theorem any_words (zs : List Int) : zs.any (fun v => !inHand v) = !wordsIn zs := by
  unfold wordsIn
  induction zs with
  | nil => rfl
  | cons x r ih => rw [List.any_cons, List.all_cons, ih, Bool.not_and]
set_option maxHeartbeats 400000 in
theorem notWord_any (v : Int) (w : World) : Calls Try.prog 22 #[.int .i64 v] w fun e w' => e = .returned (.bool (!inHand v)) ∧ w = w' := by
  by_cases h1 : v < 0
  · have HR : Hid ((!inHand v) = true) := by show _ = _; simp [inHand]; omega
    have c1 : (v < 0) = True := eq_true h1
    clear h1
    go_enter Try.func22, Try.ntmps22
    go_wp2
    go_ret
    exact ⟨by rw [HR.out]; rfl, rfl⟩
  · have c1 : (v < 0) = False := eq_false h1
    by_cases h2 : 255 < v
    · have HR : Hid ((!inHand v) = true) := by show _ = _; simp [inHand]; omega
      have c2 : (255 < v) = True := eq_true h2
      clear h1 h2
      go_enter Try.func22, Try.ntmps22
      go_wp2
      go_ret
      exact ⟨by rw [HR.out]; rfl, rfl⟩
    · have HR : Hid ((!inHand v) = false) := by show _ = _; simp [inHand]; omega
      have c2 : (255 < v) = False := eq_false h2
      clear h1 h2
      go_enter Try.func22, Try.ntmps22
      go_wp2
      go_ret
      exact ⟨by rw [HR.out]; rfl, rfl⟩
set_option maxRecDepth 8000 in
theorem wordsOf_any (A : Option Addr) (n c B : Nat) (zs : List Int) (w : World) (hn : n ≤ maxLen) (hx : Arr .i64 w B A n zs) :
    Calls Try.prog 21 #[.slice A n c, .func (.func 22) #[] #[]] w fun e w' => e = .returned (.bool (!wordsIn zs)) ∧ w = w' := by
  rw [← any_words]
  exact containsFnInts A n c B 22 _ zs w hn hx (fun args wx => Try.call22 args wx) notWord_any
end Go.Proofs.Ytedndmhekjfpdaa
