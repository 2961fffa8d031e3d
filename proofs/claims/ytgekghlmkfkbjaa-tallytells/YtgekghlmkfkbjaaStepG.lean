/-
  Marking by steps, over no program (grey and black objects, a step, a write with its barrier); contracts of package step's read, Start, Check, Done.
-/
import Derived.Test.YtgekghlmkfkbjaaTintM
import Derived.Test.YtgekghlmkfkbjaaStepD
import Derived.Test.YtgekghlmkfkbjaaRefT
namespace Go.Proofs.Ytgekghlmkfkbjaa
open Go.RowKit

/-- Grey and black are right: they rise, are objects, share none, and no black one refers to a white one. -/
structure TriOk (nx : Int → List Int) (L g b : List Int) : Prop where
  gr : g.Pairwise (· < ·)
  br : b.Pairwise (· < ·)
  gl : ∀ x ∈ g, x ∈ L
  bl : ∀ x ∈ b, x ∈ L
  apart : ∀ x ∈ g, x ∉ b
  inv : ∀ x ∈ b, ∀ y ∈ nx x, 0 ≤ y → y ∈ g ∨ y ∈ b
/-- The black ones behind a step at 'x'. -/
def stepB (x : Int) (b : List Int) : List Int := risingTo (b ++ [x]) 256
/-- The grey ones behind it. -/
def stepG (nx : Int → List Int) (x : Int) (g b : List Int) : List Int := risingTo (g ++ (nx x).filter fun y => decide (0 ≤ y ∧ y ∉ stepB x b)) 256
theorem rises_nodup {xs : List Int} (h : xs.Pairwise (· < ·)) : xs.Nodup := h.imp fun h e => by omega
section
variable {nx : Int → List Int} {L g b fr : List Int} {x : Int}
theorem stepB_mem (hL : ∀ y ∈ L, 0 ≤ y ∧ y < 256) (hb : ∀ y ∈ b, y ∈ L) (hx : x ∈ L) {y : Int} : y ∈ stepB x b ↔ y ∈ b ∨ y = x := by
  unfold stepB
  rw [risingTo_mem, List.mem_append, List.mem_singleton]
  constructor
  · exact fun h => h.1
  · rintro (h | h)
    · exact ⟨.inl h, (hL y (hb y h)).1, (hL y (hb y h)).2⟩
    · subst h; exact ⟨.inr rfl, (hL y hx).1, (hL y hx).2⟩
theorem stepB_len (hL : ∀ y ∈ L, 0 ≤ y ∧ y < 256) (hb : ∀ y ∈ b, y ∈ L) (hr : b.Pairwise (· < ·)) (hx : x ∈ L) (hn : x ∉ b) : (stepB x b).length = b.length + 1 := by
  have h1 : (b ++ [x]).Nodup := nodup_snoc (rises_nodup hr) hn
  have h2 : (stepB x b).Nodup := rises_nodup (risingTo_rises _ _)
  have h3 := sub_length h1 (L := stepB x b) fun y hy => (stepB_mem hL hb hx).2 (by simpa using hy)
  have h4 := sub_length h2 (L := b ++ [x]) fun y hy => by simpa using (stepB_mem hL hb hx).1 hy
  rw [List.length_append, List.length_singleton] at h3 h4
  omega
theorem stepG_mem (hL : ∀ y ∈ L, 0 ≤ y ∧ y < 256) (hc : Closed nx L) (hg : ∀ y ∈ g, y ∈ L) (hx : x ∈ L) {y : Int} : y ∈ stepG nx x g b ↔ y ∈ g ∨ (y ∈ nx x ∧ 0 ≤ y ∧ y ∉ stepB x b) := by
  unfold stepG
  rw [risingTo_mem, List.mem_append, List.mem_filter, decide_eq_true_eq]
  constructor
  · exact fun h => h.1
  · rintro (h | h)
    · exact ⟨.inl h, (hL y (hg y h)).1, (hL y (hg y h)).2⟩
    · have hy : y ∈ L := (hc x hx y h.1).resolve_left (by omega)
      exact ⟨.inr h, (hL y hy).1, (hL y hy).2⟩
/-- A step keeps all right, and makes one more black. -/
theorem step_ok (hL : ∀ y ∈ L, 0 ≤ y ∧ y < 256) (hc : Closed nx L) (h : TriOk nx L (x :: g) b) : TriOk nx L (stepG nx x g b) (stepB x b) ∧ (stepB x b).length = b.length + 1 := by
  have hx : x ∈ L := h.gl x (by simp)
  have hg : ∀ y ∈ g, y ∈ L := fun y hy => h.gl y (by simp [hy])
  have hxg : x ∉ g := fun hm => by
    have := (List.pairwise_cons.1 h.gr).1 x hm
    omega
  have mB := fun y => stepB_mem hL h.bl hx (y := y)
  have mG := fun y => stepG_mem (b := b) hL hc hg hx (y := y)
  refine ⟨⟨risingTo_rises _ _, risingTo_rises _ _, fun y hy => ?_, fun y hy => ?_, fun y hy => ?_, fun z hz y hy h0 => ?_⟩, stepB_len hL h.bl h.br hx (h.apart x (by simp))⟩
  · rcases (mG y).1 hy with h1 | h1
    · exact hg y h1
    · exact (hc x hx y h1.1).resolve_left (by omega)
  · rcases (mB y).1 hy with h1 | h1
    · exact h.bl y h1
    · rw [h1]; exact hx
  · rcases (mG y).1 hy with h1 | h1
    · intro h2
      rcases (mB y).1 h2 with h3 | h3
      · exact h.apart y (by simp [h1]) h3
      · rw [h3] at h1; exact hxg h1
    · exact h1.2.2
  · by_cases hyb : y ∈ stepB x b
    · exact .inr hyb
    · left
      rcases (mB z).1 hz with h1 | h1
      · rcases h.inv z h1 y hy h0 with h2 | h2
        · rcases List.mem_cons.1 h2 with h3 | h3
          · exact absurd ((mB y).2 (.inr h3)) hyb
          · exact (mG y).2 (.inl h3)
        · exact absurd ((mB y).2 (.inl h2)) hyb
      · rw [h1] at hy
        exact (mG y).2 (.inr ⟨hy, h0, hyb⟩)
/-- None that was grey or black becomes white. -/
theorem step_keeps (hL : ∀ y ∈ L, 0 ≤ y ∧ y < 256) (hc : Closed nx L) (h : TriOk nx L (x :: g) b) {y : Int} (hy : y ∈ x :: g ∨ y ∈ b) : y ∈ stepG nx x g b ∨ y ∈ stepB x b := by
  have hx : x ∈ L := h.gl x (by simp)
  have hg : ∀ y ∈ g, y ∈ L := fun y hy => h.gl y (by simp [hy])
  rcases hy with hy | hy
  · rcases List.mem_cons.1 hy with h1 | h1
    · exact .inr ((stepB_mem hL h.bl hx).2 (.inr h1))
    · exact .inl ((stepG_mem hL hc hg hx).2 (.inl h1))
  · exact .inr ((stepB_mem hL h.bl hx).2 (.inl hy))
/-- Grey and black ones are reached. -/
theorem step_sound (hL : ∀ y ∈ L, 0 ≤ y ∧ y < 256) (hc : Closed nx L) (h : TriOk nx L (x :: g) b) (hs : ∀ y, y ∈ x :: g ∨ y ∈ b → Reach nx fr y) {y : Int} (hy : y ∈ stepG nx x g b ∨ y ∈ stepB x b) : Reach nx fr y := by
  have hx : x ∈ L := h.gl x (by simp)
  have hg : ∀ y ∈ g, y ∈ L := fun y hy => h.gl y (by simp [hy])
  rcases hy with hy | hy
  · rcases (stepG_mem hL hc hg hx).1 hy with h1 | ⟨h1, h0, _⟩
    · exact hs y (.inl (by simp [h1]))
    · exact .step (hs x (.inl (by simp))) h1 h0
  · rcases (stepB_mem hL h.bl hx).1 hy with h1 | h1
    · exact hs y (.inr h1)
    · exact hs y (.inl (by simp [h1]))
/-- None grey any more: all that is reached is black. -/
theorem tri_all (h : TriOk nx L [] b) (hf : ∀ y ∈ fr, y ∈ b) {y : Int} (hy : Reach nx fr y) : y ∈ b :=
  reach_least hf (fun z hz y hy h0 => (h.inv z hz y hy h0).resolve_left (by simp)) hy
theorem tri_just (h : TriOk nx L [] b) (hf : ∀ y ∈ fr, y ∈ b) (hs : ∀ y ∈ b, Reach nx fr y) (y : Int) : y ∈ b ↔ Reach nx fr y := ⟨hs y, tri_all h hf⟩
/-- The grey ones behind a write of 'z' into the object at 'a'. -/
def writeG (a z : Int) (g b : List Int) : List Int := if a ∈ b ∧ 0 ≤ z ∧ z ∉ g ∧ z ∉ b then risingTo (g ++ [z]) 256 else g
theorem write_ok (hL : ∀ y ∈ L, 0 ≤ y ∧ y < 256) {nx' : Int → List Int} {a z : Int} (hz : z < 0 ∨ z ∈ L) (hn : ∀ y ∈ L, y ≠ a → nx' y = nx y) (ha : ∀ y ∈ nx' a, y ∈ nx a ∨ y = z) (h : TriOk nx L g b) : TriOk nx' L (writeG a z g b) b := by
  have key : ∀ y ∈ b, ∀ u ∈ nx' y, 0 ≤ u → (u ∈ g ∨ u ∈ b) ∨ (a ∈ b ∧ u = z) := fun y hy u hu h0 => by
    by_cases e : y = a
    · subst e
      rcases ha u hu with h1 | h1
      · exact .inl (h.inv y hy u h1 h0)
      · exact .inr ⟨hy, h1⟩
    · rw [hn y (h.bl y hy) e] at hu
      exact .inl (h.inv y hy u hu h0)
  unfold writeG
  by_cases hw : a ∈ b ∧ 0 ≤ z ∧ z ∉ g ∧ z ∉ b
  · rw [if_pos hw]
    obtain ⟨_, h0, hzg, hzb⟩ := hw
    have hzL : z ∈ L := hz.resolve_left (by omega)
    have m : ∀ y, y ∈ risingTo (g ++ [z]) 256 ↔ y ∈ g ∨ y = z := fun y => by
      rw [risingTo_mem, List.mem_append, List.mem_singleton]
      constructor
      · exact fun h => h.1
      · rintro (h1 | h1)
        · exact ⟨.inl h1, (hL y (h.gl y h1)).1, (hL y (h.gl y h1)).2⟩
        · subst h1; exact ⟨.inr rfl, (hL y hzL).1, (hL y hzL).2⟩
    refine ⟨risingTo_rises _ _, h.br, fun y hy => ?_, h.bl, fun y hy => ?_, fun y hy u hu hu0 => ?_⟩
    · rcases (m y).1 hy with h1 | h1
      · exact h.gl y h1
      · rw [h1]; exact hzL
    · rcases (m y).1 hy with h1 | h1
      · exact h.apart y h1
      · rw [h1]; exact hzb
    · rcases key y hy u hu hu0 with (h1 | h1) | ⟨_, h1⟩
      · exact .inl ((m u).2 (.inl h1))
      · exact .inr h1
      · exact .inl ((m u).2 (.inr h1))
  · rw [if_neg hw]
    refine ⟨h.gr, h.br, h.gl, h.bl, h.apart, fun y hy u hu hu0 => ?_⟩
    rcases key y hy u hu hu0 with h1 | ⟨h1, h2⟩
    · exact h1
    · subst h2
      by_cases h3 : u ∈ g
      · exact .inl h3
      · by_cases h4 : u ∈ b
        · exact .inr h4
        · exact absurd ⟨h1, hu0, h3, h4⟩ hw
theorem write_keeps (hL : ∀ y ∈ L, 0 ≤ y ∧ y < 256) (h : TriOk nx L g b) {a z y : Int} (hy : y ∈ g ∨ y ∈ b) : y ∈ writeG a z g b ∨ y ∈ b := by
  unfold writeG
  split
  · rcases hy with hy | hy
    · exact .inl (risingTo_mem.2 ⟨List.mem_append_left _ hy, (hL y (h.gl y hy)).1, (hL y (h.gl y hy)).2⟩)
    · exact .inr hy
  · exact hy
/-- No more black ones than there are objects. -/
theorem tri_len (h : TriOk nx L g b) : b.length ≤ L.length := sub_length (rises_nodup h.br) h.bl
end


/-- The colours of a state. -/
def colOf (g b : List Int) : Int → Int := paintC (paintC (fun _ => 0) g 1) b 2
/-- A word that is in both lists. -/
def thereB (g b : List Int) : Bool := b.any fun x => decide (x ∈ g)
/-- The error of a marking state. -/
def triE (zs g b : List Int) : Int :=
  if arErr zs ≠ 0 then arErr zs else if (riseB g && riseB b) = false then 3 else if (allIn zs g && allIn zs b) = false then 5 else if thereB g b = true then 6 else if brokenB zs (colOf g b) b = true then 8 else 0
section
variable {zs g b : List Int}
theorem triE_arena (h : arErr zs ≠ 0) : triE zs g b = arErr zs := by unfold triE; rw [if_pos h]
theorem triE_form (h : arErr zs = 0) (h1 : (riseB g && riseB b) = false) : triE zs g b = 3 := by unfold triE; rw [if_neg (by simp [h]), if_pos h1]
theorem triE_none (h : arErr zs = 0) (h1 : (riseB g && riseB b) = true) (h2 : (allIn zs g && allIn zs b) = false) : triE zs g b = 5 := by unfold triE; rw [if_neg (by simp [h]), if_neg (by simp [h1]), if_pos h2]
theorem triE_there (h : arErr zs = 0) (h1 : (riseB g && riseB b) = true) (h2 : (allIn zs g && allIn zs b) = true) (h3 : thereB g b = true) : triE zs g b = 6 := by unfold triE; rw [if_neg (by simp [h]), if_neg (by simp [h1]), if_neg (by simp [h2]), if_pos h3]
theorem triE_held (h : arErr zs = 0) (h1 : (riseB g && riseB b) = true) (h2 : (allIn zs g && allIn zs b) = true) (h3 : thereB g b = false) (h4 : brokenB zs (colOf g b) b = true) : triE zs g b = 8 := by unfold triE; rw [if_neg (by simp [h]), if_neg (by simp [h1]), if_neg (by simp [h2]), if_neg (by simp [h3]), if_pos h4]
theorem triE_ok (h : arErr zs = 0) (h1 : (riseB g && riseB b) = true) (h2 : (allIn zs g && allIn zs b) = true) (h3 : thereB g b = false) (h4 : brokenB zs (colOf g b) b = false) : triE zs g b = 0 := by unfold triE; rw [if_neg (by simp [h]), if_neg (by simp [h1]), if_neg (by simp [h2]), if_neg (by simp [h3]), if_neg (by simp [h4])]
theorem triE_zero (h : triE zs g b = 0) : arErr zs = 0 ∧ (riseB g && riseB b) = true ∧ (allIn zs g && allIn zs b) = true ∧ thereB g b = false ∧ brokenB zs (colOf g b) b = false := by
  unfold triE at h
  split at h
  · rename_i h0; exact absurd h h0
  · rename_i h0
    split at h
    · omega
    · rename_i h1
      split at h
      · omega
      · rename_i h2
        split at h
        · omega
        · rename_i h3
          split at h
          · omega
          · rename_i h4
            exact ⟨by simpa using h0, by simpa using h1, by simpa using h2, by simpa using h3, by simpa using h4⟩
theorem rise_len (hz : zs.length ≤ 256) (h1 : riseB g = true) (h2 : allIn zs g = true) : g.length ≤ 256 :=
  Nat.le_trans (sub_length (rises_nodup (riseB_iff.1 h1)) (allIn_iff.1 h2)) (lives_len hz)
end

section
variable {w wx wx' : World} {g4 : Nat} {A G K : Option Addr} {n c ng cg nb cb : Nat} {W S : Option Addr} {cw gm q sc N N' : Nat} {zs g b : List Int} {co co' : Int → Int}
end
/-- Three cells of the call's own are written. -/
theorem set3 {w w5 : World} {B g : Nat} {t : TypeId} {c0 c1 c2 : Value} (hb : Below B w w5) (bx : Box w5 g t #[c0, c1, c2]) (hg : B ≤ g) (a0 a1 a2 : Value) :
    Below B w (((w5.setCell ⟨g, 0, none⟩ a0).setCell ⟨g, 1, none⟩ a1).setCell ⟨g, 2, none⟩ a2) ∧ Box (((w5.setCell ⟨g, 0, none⟩ a0).setCell ⟨g, 1, none⟩ a1).setCell ⟨g, 2, none⟩ a2) g t #[a0, a1, a2] ∧ (((w5.setCell ⟨g, 0, none⟩ a0).setCell ⟨g, 1, none⟩ a1).setCell ⟨g, 2, none⟩ a2).heap.size = w5.heap.size ∧
      ∀ i, i ≠ g → (((w5.setCell ⟨g, 0, none⟩ a0).setCell ⟨g, 1, none⟩ a1).setCell ⟨g, 2, none⟩ a2).heap[i]? = w5.heap[i]? :=
  ⟨below_set (below_set (below_set hb hg _ _) hg _ _) hg _ _, ((bx.set 0 a0).set 1 a1).set 2 a2, by simp [World.setCell], fun i hi => by
    rw [heap_setOther _ hi, heap_setOther _ hi, heap_setOther _ hi]⟩
/-- Another block is written: a marking is as it was. -/
theorem Arr.keepB {k : IntKind} {w w' : World} {n lo : Nat} {A : Option Addr} {zs : List Int} (h : Arr k w w.heap.size A n zs) (hi : High lo A n) (hs : w'.heap.size = w.heap.size) (hb : ∀ i, lo ≤ i → w'.heap[i]? = w.heap[i]?) : Arr k w' w'.heap.size A n zs :=
  ⟨h.1, h.2.1, fun hn => by
    obtain ⟨b, off, e, hlt, hc⟩ := h.2.2 hn
    refine ⟨b, off, e, by omega, fun j hj => ?_⟩
    have := hb b (hi b off hn e)
    rw [← hc j hj]
    simp [World.cell?, this]⟩
/-- A row that holds something is no struct's block. -/
theorem Arr.offBox {k : IntKind} {w w' : World} {n g : Nat} {t : TypeId} {A : Option Addr} {zs : List Int} {cs : Array Value} (h : Arr k w w.heap.size A n zs) (hx : Box w g t cs) (hno : ∀ (j : Nat) (x : Int), cs[j]? ≠ some (Value.int k x)) (hs : w'.heap.size = w.heap.size) (hb : ∀ i, i ≠ g → w'.heap[i]? = w.heap[i]?) : Arr k w' w'.heap.size A n zs :=
  ⟨h.1, h.2.1, fun hn => by
    obtain ⟨b, off, e, hlt, hc⟩ := h.2.2 hn
    refine ⟨b, off, e, by omega, fun j hj => ?_⟩
    have h1 := hc j hj
    have hne : b ≠ g := by
      rintro rfl
      rw [hx.cell] at h1
      exact hno _ _ h1
    have := hb b hne
    rw [← hc j hj]
    simp [World.cell?, this]⟩
theorem noInt3 {a b d : Option Addr} {m1 m2 m3 c1 c2 c3 : Nat} (k : IntKind) (j : Nat) (x : Int) : (#[Value.slice a m1 c1, .slice b m2 c2, .slice d m3 c3] : Array Value)[j]? ≠ some (Value.int k x) := by
  intro h
  match j, h with
  | 0, h => simp at h
  | 1, h => simp at h
  | 2, h => simp at h
  | j + 3, h => simp at h
theorem noInt3m {a d : Option Addr} {b : Option Nat} {m1 m3 c1 c3 : Nat} (k : IntKind) (j : Nat) (x : Int) : (#[Value.slice a m1 c1, .map b, .slice d m3 c3] : Array Value)[j]? ≠ some (Value.int k x) := by
  intro h
  match j, h with
  | 0, h => simp at h
  | 1, h => simp at h
  | 2, h => simp at h
  | j + 3, h => simp at h
/-- What read answers. -/
def RdP (n : Nat) (zs g b : List Int) (w : World) (e : Ending) (w' : World) : Prop := Below w.heap.size w w' ∧
  ((triE zs g b ≠ 0 ∧ e = .returned (.tuple #[markZ, .int .i64 (triE zs g b)])) ∨
   (triE zs g b = 0 ∧ ∃ W c gm S q sc N, e = .returned (.tuple #[.agg #[.slice W n c, .map (some gm), .slice S q sc], .int .i64 0]) ∧ MkS w' W S n q gm N zs zs (colOf g b) ∧ N ≤ 800 ∧ w.heap.size ≤ gm ∧ OwnF .u64 69 w' w.heap.size (.slice W n c) zs))
/-- A state that came in. -/
structure TriIn (w : World) (A G K : Option Addr) (n c ng nb : Nat) (zs g b : List Int) : Prop where
  arena : Arr .u64 w w.heap.size A n zs
  grey : Arr .i64 w w.heap.size G ng g
  blk : Arr .i64 w w.heap.size K nb b
  hn : n ≤ maxLen
  hnc : n ≤ c
  hg : ng ≤ maxLen
  hb : nb ≤ maxLen
theorem TriIn.next {w w' : World} {A G K : Option Addr} {n c ng nb : Nat} {zs g b : List Int} (h : TriIn w A G K n c ng nb zs g b) (hb : Below w.heap.size w w') : TriIn w' A G K n c ng nb zs g b :=
  ⟨(h.arena.below hb (Nat.le_refl _)).more hb.size, (h.grey.below hb (Nat.le_refl _)).more hb.size, (h.blk.below hb (Nat.le_refl _)).more hb.size, h.hn, h.hnc, h.hg, h.hb⟩

section
variable {zs g b : List Int}
theorem co_of {x : Int} : colOf g b x = if x ∈ b then 2 else if x ∈ g then 1 else 0 := rfl
theorem thereB_false : thereB g b = false ↔ ∀ x ∈ g, x ∉ b := by
  unfold thereB
  rw [List.any_eq_false]
  constructor
  · intro h x hg hb
    exact h x hb (by simpa using hg)
  · intro h x hb
    simpa using fun hg => h x hg hb
theorem brokenB_false (hz : ∀ z ∈ zs, (Lit.int .u64 z).wf = true) (h : arErr zs = 0) (hb : ∀ x ∈ b, x ∈ livesI zs) : brokenB zs (colOf g b) b = false ↔ ∀ x ∈ b, ∀ y ∈ nxOf zs x, 0 ≤ y → y ∈ g ∨ y ∈ b := by
  have hc := lives_closed hz h
  unfold brokenB
  rw [List.any_eq_false]
  constructor
  · intro h1 x hx y hy h0
    have h2 := h1 x hx
    have h3 : whiteL zs (colOf g b) x.toNat = [] := by simpa using h2
    have hyl : y ∈ livesI zs := (hc x (hb x hx) y hy).resolve_left (by omega)
    by_cases hyb : y ∈ b
    · exact .inr hyb
    · by_cases hyg : y ∈ g
      · exact .inl hyg
      · exfalso
        have : y ∈ whiteL zs (colOf g b) x.toNat := whiteL_mem.2 ⟨hy, hyl, by rw [co_of, if_neg hyb, if_neg hyg]⟩
        rw [h3] at this
        cases this
  · intro h1 x hx
    have h3 : whiteL zs (colOf g b) x.toNat = [] := List.eq_nil_iff_forall_not_mem.2 fun y hy => by
      obtain ⟨h4, h5, h6⟩ := whiteL_mem.1 hy
      rw [co_of] at h6
      rcases h1 x hx y h4 (lives_pos y h5) with h7 | h7
      · by_cases h8 : y ∈ b
        · rw [if_pos h8] at h6; omega
        · rw [if_neg h8, if_pos h7] at h6; omega
      · rw [if_pos h7] at h6; omega
    rw [h3]; simp
/-- No error: all is right. -/
theorem triE_iff (hz : ∀ z ∈ zs, (Lit.int .u64 z).wf = true) : triE zs g b = 0 ↔ arErr zs = 0 ∧ TriOk (nxOf zs) (livesI zs) g b := by
  constructor
  · intro h
    obtain ⟨h1, h2, h3, h4, h5⟩ := triE_zero h
    rw [Bool.and_eq_true] at h2 h3
    have hb := allIn_iff.1 h3.2
    exact ⟨h1, riseB_iff.1 h2.1, riseB_iff.1 h2.2, allIn_iff.1 h3.1, hb, thereB_false.1 h4, (brokenB_false hz h1 hb).1 h5⟩
  · rintro ⟨h1, h2⟩
    exact triE_ok h1 (by rw [riseB_iff.2 h2.gr, riseB_iff.2 h2.br]; rfl) (by rw [allIn_iff.2 h2.gl, allIn_iff.2 h2.bl]; rfl) (thereB_false.2 h2.apart) ((brokenB_false hz h1 h2.bl).2 h2.inv)
theorem lives_fit (h : arErr zs = 0) : ∀ y ∈ livesI zs, 0 ≤ y ∧ y < 256 := fun y hy => by
  have h1 := lives_lt hy
  have h2 := arena_len h
  omega
theorem col_grey (h : TriOk (nxOf zs) (livesI zs) g b) : colL zs (colOf g b) 1 = g := rise_ext colL_rise h.gr fun x => by
  rw [colL_mem, co_of]
  constructor
  · rintro ⟨_, h2⟩
    by_cases hb : x ∈ b
    · rw [if_pos hb] at h2; omega
    · by_cases hg : x ∈ g
      · exact hg
      · rw [if_neg hb, if_neg hg] at h2; omega
  · intro hg
    exact ⟨h.gl x hg, by rw [if_neg (h.apart x hg), if_pos hg]⟩
theorem col_black (h : TriOk (nxOf zs) (livesI zs) g b) : colL zs (colOf g b) 2 = b := rise_ext colL_rise h.br fun x => by
  rw [colL_mem, co_of]
  constructor
  · rintro ⟨_, h2⟩
    by_cases hb : x ∈ b
    · exact hb
    · rw [if_neg hb] at h2
      split at h2 <;> omega
  · intro hb
    exact ⟨h.bl x hb, by rw [if_pos hb]⟩
theorem col_white {x : Int} : x ∈ colL zs (colOf g b) 0 ↔ x ∈ livesI zs ∧ x ∉ g ∧ x ∉ b := by
  rw [colL_mem, co_of]
  constructor
  · rintro ⟨h1, h2⟩
    refine ⟨h1, fun hg => ?_, fun hb => ?_⟩
    · rw [if_pos hg] at h2
      split at h2 <;> omega
    · rw [if_pos hb] at h2; omega
  · rintro ⟨h1, h2, h3⟩
    exact ⟨h1, by rw [if_neg h3, if_neg h2]⟩
variable {t : Nat}
theorem scan_black (hL : ∀ y ∈ livesI zs, 0 ≤ y ∧ y < 256) (h : TriOk (nxOf zs) (livesI zs) ((t : Int) :: g) b) : colL zs (scanC zs (colOf ((t : Int) :: g) b) t) 2 = stepB (t : Int) b := rise_ext colL_rise (risingTo_rises _ _) fun x => by
  have ht : (t : Int) ∈ livesI zs := h.gl _ (by simp)
  rw [colL_mem, stepB_mem hL h.bl ht]
  unfold scanC
  constructor
  · rintro ⟨_, h2⟩
    unfold paintC at h2
    split at h2
    · omega
    · split at h2
      · rename_i h3; exact .inr (by simpa using h3)
      · rw [co_of] at h2
        by_cases hb : x ∈ b
        · exact .inl hb
        · rw [if_neg hb] at h2
          split at h2 <;> omega
  · intro hx
    have hl : x ∈ livesI zs := by
      rcases hx with hx | hx
      · exact h.bl x hx
      · rw [hx]; exact ht
    have h2 : paintC (colOf ((t : Int) :: g) b) [(t : Int)] 2 x = 2 := by
      unfold paintC
      by_cases he : x = t
      · simp [he]
      · rw [if_neg (by simpa using he), co_of, if_pos (hx.resolve_right he)]
    refine ⟨hl, ?_⟩
    show (if x ∈ whiteL zs (paintC (colOf ((t : Int) :: g) b) [(t : Int)] 2) t then 1 else paintC (colOf ((t : Int) :: g) b) [(t : Int)] 2 x) = 2
    rw [if_neg (fun hw => by have := (whiteL_mem.1 hw).2.2; omega), h2]
theorem scan_grey (hz : ∀ z ∈ zs, (Lit.int .u64 z).wf = true) (h0 : arErr zs = 0) (h : TriOk (nxOf zs) (livesI zs) ((t : Int) :: g) b) : colL zs (scanC zs (colOf ((t : Int) :: g) b) t) 1 = stepG (nxOf zs) (t : Int) g b := rise_ext colL_rise (risingTo_rises _ _) fun x => by
  have hL := lives_fit h0
  have hc := lives_closed hz h0
  have ht : (t : Int) ∈ livesI zs := h.gl _ (by simp)
  have hg : ∀ y ∈ g, y ∈ livesI zs := fun y hy => h.gl y (by simp [hy])
  have htg : (t : Int) ∉ g := fun hm => by
    have := (List.pairwise_cons.1 h.gr).1 _ hm
    omega
  have htb : (t : Int) ∉ b := h.apart _ (by simp)
  have hC : ∀ y, paintC (colOf ((t : Int) :: g) b) [(t : Int)] 2 y = if y = t then 2 else if y ∈ b then 2 else if y ∈ g then 1 else 0 := fun y => by
    unfold paintC
    by_cases he : y = t
    · simp [he]
    · rw [if_neg (by simpa using he), if_neg he, co_of]
      simp [he]
  rw [colL_mem, stepG_mem hL hc hg ht, stepB_mem hL h.bl ht]
  show (_ ∧ (if x ∈ whiteL zs (paintC (colOf ((t : Int) :: g) b) [(t : Int)] 2) t then 1 else paintC (colOf ((t : Int) :: g) b) [(t : Int)] 2 x) = 1) ↔ _
  have hw : x ∈ whiteL zs (paintC (colOf ((t : Int) :: g) b) [(t : Int)] 2) t ↔ x ∈ nxOf zs t ∧ x ∈ livesI zs ∧ x ≠ t ∧ x ∉ b ∧ x ∉ g := by
    rw [whiteL_mem, hC]
    unfold nxOf
    rw [Int.toNat_natCast]
    constructor
    · rintro ⟨h1, h2, h3⟩
      refine ⟨h1, h2, ?_⟩
      by_cases e1 : x = t
      · rw [if_pos e1] at h3; omega
      · rw [if_neg e1] at h3
        by_cases e2 : x ∈ b
        · rw [if_pos e2] at h3; omega
        · rw [if_neg e2] at h3
          by_cases e3 : x ∈ g
          · rw [if_pos e3] at h3; omega
          · exact ⟨e1, e2, e3⟩
    · rintro ⟨h1, h2, h3, h4, h5⟩
      exact ⟨h1, h2, by rw [if_neg h3, if_neg h4, if_neg h5]⟩
  simp only [hw]
  rw [hC]
  constructor
  · rintro ⟨h1, h2⟩
    by_cases e0 : x ∈ nxOf zs t ∧ x ∈ livesI zs ∧ x ≠ t ∧ x ∉ b ∧ x ∉ g
    · obtain ⟨q1, q2, q3, q4, q5⟩ := e0
      exact .inr ⟨q1, lives_pos x q2, fun h => h.elim q4 q3⟩
    · rw [if_neg e0] at h2
      by_cases e1 : x = t
      · rw [if_pos e1] at h2; omega
      · rw [if_neg e1] at h2
        by_cases e2 : x ∈ b
        · rw [if_pos e2] at h2; omega
        · rw [if_neg e2] at h2
          by_cases e3 : x ∈ g
          · exact .inl e3
          · rw [if_neg e3] at h2; omega
  · rintro (h1 | ⟨h1, h2, h3⟩)
    · have e1 : x ≠ t := fun e => htg (e ▸ h1)
      have e2 : x ∉ b := h.apart x (by simp [h1])
      refine ⟨hg x h1, ?_⟩
      rw [if_neg (fun h => h.2.2.2.2 h1), if_neg e1, if_neg e2, if_pos h1]
    · have hl : x ∈ livesI zs := (hc _ ht x h1).resolve_left (by omega)
      have e1 : x ≠ t := fun e => h3 (.inr e)
      have e2 : x ∉ b := fun e => h3 (.inl e)
      refine ⟨hl, ?_⟩
      by_cases e3 : x ∈ g
      · rw [if_neg (fun h => h.2.2.2.2 e3), if_neg e1, if_neg e2, if_pos e3]
      · rw [if_pos ⟨h1, hl, e1, e2, e3⟩]
theorem col_start {fr : List Int} (h : fromE zs fr = 0) : colL zs (paintC (fun _ => 0) fr 1) 1 = risingTo fr 256 := rise_ext colL_rise (risingTo_rises _ _) fun x => by
  obtain ⟨h1, h2⟩ := fromE_zero h
  rw [colL_mem, risingTo_mem]
  unfold paintC
  constructor
  · rintro ⟨h3, h4⟩
    split at h4
    · rename_i h5
      exact ⟨h5, lives_fit h1 x h3⟩
    · simp at h4
  · rintro ⟨h3, _⟩
    exact ⟨h2 x h3, by rw [if_pos h3]⟩
theorem col_start2 {fr : List Int} : colL zs (paintC (fun _ => 0) fr 1) 2 = [] := List.eq_nil_iff_forall_not_mem.2 fun x hx => by
  have := (colL_mem.1 hx).2
  unfold paintC at this
  split at this
  · omega
  · simp at this
theorem triStart_ok {fr : List Int} (h : fromE zs fr = 0) : TriOk (nxOf zs) (livesI zs) (risingTo fr 256) [] := by
  obtain ⟨h1, h2⟩ := fromE_zero h
  exact ⟨risingTo_rises _ _, List.Pairwise.nil, fun x hx => h2 x (risingTo_mem.1 hx).1, fun x hx => (by cases hx), fun x _ hx => (by cases hx), fun x hx => (by cases hx)⟩
end


/-- The lists of a state. -/
abbrev Tri3 := List Int × List Int × List Int
/-- A state's slices read as these lists. -/
def TriV (w : World) (A G K : Option Addr) (n c ng nb : Nat) (t : Tri3) : Prop := TriIn w A G K n c ng nb t.1 t.2.1 t.2.2
theorem TriV.next {w w' : World} {A G K : Option Addr} {n c ng nb : Nat} {t : Tri3} (h : TriV w A G K n c ng nb t) (hb : Below w.heap.size w w') : TriV w' A G K n c ng nb t := TriIn.next h hb
theorem TriV.zero {w : World} : TriV w none none none 0 0 0 0 ([], [], []) := ⟨Arr.zero, Arr.zero, Arr.zero, Nat.zero_le _, Nat.le_refl _, Nat.zero_le _, Nat.zero_le _⟩
/-- What Start answers. -/
def startT (zs fr : List Int) : Tri3 := if fromE zs fr = 0 then (zs, risingTo fr 256, []) else ([], [], [])
def StartP (zs fr : List Int) (w : World) (e : Ending) (w' : World) : Prop := ∃ A n c G ng cg K nb cb, e = .returned (.tuple #[.agg #[.slice A n c, .slice G ng cg, .slice K nb cb], .int .i64 (fromE zs fr)]) ∧ Below w.heap.size w w' ∧ TriV w' A G K n c ng nb (startT zs fr)
theorem startT_bad {zs fr : List Int} (h : fromE zs fr ≠ 0) : startT zs fr = ([], [], []) := if_neg h
theorem startT_ok {zs fr : List Int} (h : fromE zs fr = 0) : startT zs fr = (zs, risingTo fr 256, []) := if_pos h
/-- What Step answers. -/
def stepT (zs g b : List Int) : Tri3 := if triE zs g b = 0 then (match g with | [] => (zs, [], b) | x :: g' => (zs, stepG (nxOf zs) x g' b, stepB x b)) else ([], [], [])
def stepMore (zs g b : List Int) : Bool := decide (triE zs g b = 0) && !g.isEmpty
def StepP (zs g b : List Int) (w : World) (e : Ending) (w' : World) : Prop := ∃ A n c G ng cg K nb cb, e = .returned (.tuple #[.agg #[.slice A n c, .slice G ng cg, .slice K nb cb], .bool (stepMore zs g b), .int .i64 (triE zs g b)]) ∧ Below w.heap.size w w' ∧ TriV w' A G K n c ng nb (stepT zs g b)
def StepF (zs g b : List Int) (w : World) (e : Ending) (w' : World) : Prop := ∃ A n c G ng cg K nb cb, e = .returned (.tuple #[.agg #[.slice A n c, .slice G ng cg, .slice K nb cb], .bool (stepMore zs g b), .int .i64 (triE zs g b)]) ∧ Below w.heap.size w w' ∧ TriV w' A G K n c ng nb (stepT zs g b) ∧
  SpareI .u64 69 w.heap.size w' A c ∧ SpareI .i64 3 w.heap.size w' G cg ∧ SpareI .i64 3 w.heap.size w' K cb
/-- What Done answers. -/
def doneE (zs g b : List Int) : Int := if triE zs g b = 0 then (if g = [] then 0 else 8) else triE zs g b
def doneL (zs g b : List Int) : List Int := if doneE zs g b = 0 then (livesI zs).filter (fun x => decide (x ∉ b)) else []
def DoneP (zs g b : List Int) (w : World) (e : Ending) (w' : World) : Prop := ∃ L m c, e = .returned (.tuple #[.slice L m c, .int .i64 (doneE zs g b)]) ∧ Below w.heap.size w w' ∧ m ≤ maxLen ∧ Arr .i64 w' w'.heap.size L m (doneL zs g b)

/-- A row that is not in a block of three slices stays while that block is written. -/
theorem Arr.set3 {k : IntKind} {w w5 : World} {n g : Nat} {t : TypeId} {A : Option Addr} {zs : List Int} (h : Arr k w5 w5.heap.size A n zs) {a b d : Option Addr} {m1 m2 m3 c1 c2 c3 : Nat} (bx : Box w5 g t #[.slice a m1 c1, .slice b m2 c2, .slice d m3 c3]) (hs : w.heap.size = w5.heap.size) (hb : ∀ i, i ≠ g → w.heap[i]? = w5.heap[i]?) : Arr k w w.heap.size A n zs :=
  h.offBox bx (noInt3 _) hs hb

theorem doneE_bad {zs g b : List Int} (h : triE zs g b ≠ 0) : doneE zs g b = triE zs g b := if_neg h
theorem doneL_bad {zs g b : List Int} (h : doneE zs g b ≠ 0) : doneL zs g b = [] := if_neg h
theorem doneE_grey {zs g b : List Int} (h : triE zs g b = 0) (hg : g ≠ []) : doneE zs g b = 8 := by unfold doneE; rw [if_pos h, if_neg hg]
theorem doneE_ok {zs g b : List Int} (h : triE zs g b = 0) (hg : g = []) : doneE zs g b = 0 := by unfold doneE; rw [if_pos h, if_pos hg]
theorem doneL_ok {zs g b : List Int} (h : triE zs g b = 0) (hg : g = []) : doneL zs g b = colL zs (colOf g b) 0 := by
  unfold doneL
  rw [if_pos (doneE_ok h hg)]
  unfold colL
  refine List.filter_congr fun x hx => ?_
  unfold isC
  rw [co_of, Bool.eq_iff_iff]
  subst hg
  by_cases hb : x ∈ b <;> simp [hx, hb]
end Go.Proofs.Ytgekghlmkfkbjaa
