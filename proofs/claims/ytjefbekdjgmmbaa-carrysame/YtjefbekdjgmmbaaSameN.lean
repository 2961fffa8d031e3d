/-
  What package same's functions answer (the propositions 'FormC', 'AlikeC', 'BuildC': to be proved of the code that lands).
-/
import Derived.Test.YtjefbekdjgmmbaaSameM
import Derived.Test.YtjefbekdjgmmbaaLay
import Derived.Test.YtjefbekdjgmmbaaArFrom
namespace Go.Proofs.Ytjefbekdjgmmbaa
open Go.RowKit

/-- A form in memory: its objects and its places. -/
structure FormIn (w : World) (D : Option Addr) (m c : Nat) (F : Option Addr) (k d : Nat) (raws : List Raw) (os : List Ob) (ps : List Int) : Prop where
  mc : m ≤ c
  kd : k ≤ d
  mz : m ≤ 140737488355328
  kz : k * 8 ≤ 140737488355328
  objs : ObsAt w 0 w.heap.size D m raws os
  lens : ∀ j, j < m → (nthG raws j).rn ≤ maxLen ∧ (nthG raws j).bn ≤ maxLen
  places : Arr .i64 w w.heap.size F k ps
theorem ObsAt.laterS {w w' : World} {lo : Nat} {A : Option Addr} {n : Nat} {raws : List Raw} {os : List Ob} (h : ObsAt w lo w.heap.size A n raws os) (hb : Below w.heap.size w w') : ObsAt w' lo w'.heap.size A n raws os :=
  ⟨h.1, (h.2.1.below hb (Nat.le_refl _)).more hb.size, fun j hj => ((h.2.2 j hj).below hb (Nat.le_refl _)).more hb.size⟩
theorem FormIn.later {w w' : World} {D F : Option Addr} {m c k d : Nat} {raws : List Raw} {os : List Ob} {ps : List Int} (h : FormIn w D m c F k d raws os ps) (hb : Below w.heap.size w w') : FormIn w' D m c F k d raws os ps :=
  ⟨h.mc, h.kd, h.mz, h.kz, h.objs.laterS hb, h.lens, (h.places.below hb (Nat.le_refl _)).more hb.size⟩
/-- What Form, Alike, Build answer. -/
def sfO (zs fr : List Int) : List Ob := if fromE zs fr = 0 then formO zs fr else []
def sfF (zs fr : List Int) : List Int := if fromE zs fr = 0 then formF zs fr else []
def aliE (zs fr ys gr : List Int) : Int := if fromE zs fr ≠ 0 then fromE zs fr else fromE ys gr
def aliB (zs fr ys gr : List Int) : Bool := decide (aliE zs fr ys gr = 0) && sameB zs fr ys gr
def atB (os : List Ob) (k : Int) : Bool := decide (0 ≤ k) && decide (k < os.length) && !(nthG os k.toNat).2.2.2
def bldE (os : List Ob) (ps : List Int) (n : Int) : Int := if layErr os n ≠ 0 then layErr os n else if ps.all (atB os) = true then 0 else 5
def bldA (os : List Ob) (ps : List Int) (n : Int) : List Int := if bldE os ps n = 0 then layWords os n.toNat else []
def bldF (os : List Ob) (ps : List Int) (n : Int) : List Int := if bldE os ps n = 0 then ps.map (fun k => (offs os k.toNat : Int)) else []
def SFormP (zs fr : List Int) (w : World) (e : Ending) (w' : World) : Prop := ∃ D m c F k d raws, e = .returned (.tuple #[.agg #[.slice D m c, .slice F k d], .int .i64 (fromE zs fr)]) ∧ Below w.heap.size w w' ∧ FormIn w' D m c F k d raws (sfO zs fr) (sfF zs fr)
def AlikeP (zs fr ys gr : List Int) (w : World) (e : Ending) (w' : World) : Prop := e = .returned (.tuple #[.bool (aliB zs fr ys gr), .int .i64 (aliE zs fr ys gr)]) ∧ Below w.heap.size w w'
def BuildP (os : List Ob) (ps : List Int) (n : Int) (w : World) (e : Ending) (w' : World) : Prop := ∃ B m c F k d, e = .returned (.tuple #[.slice B m c, .slice F k d, .int .i64 (bldE os ps n)]) ∧ Below w.heap.size w w' ∧ m ≤ c ∧ k ≤ d ∧ Arr .u64 w' w'.heap.size B m (bldA os ps n) ∧ Arr .i64 w' w'.heap.size F k (bldF os ps n)
/-- The contracts. -/
def FormC : Prop := ∀ (A F : Option Addr) (n c nf cf : Nat) (zs fr : List Int) (w : World), ArenaFrom w A F n c nf cf zs fr →
  Calls Try.prog 10 #[.slice A n c, .slice F nf cf] w (SFormP zs fr w)
def AlikeC : Prop := ∀ (A F B G : Option Addr) (n c nf cf m d ng cg : Nat) (zs fr ys gr : List Int) (w : World), ArenaFrom w A F n c nf cf zs fr → ArenaFrom w B G m d ng cg ys gr →
  Calls Try.prog 11 #[.slice A n c, .slice F nf cf, .slice B m d, .slice G ng cg] w (AlikeP zs fr ys gr w)
def BuildC : Prop := ∀ (D F : Option Addr) (m c k d : Nat) (raws : List Raw) (os : List Ob) (ps : List Int) (n : Int) (w : World), FormIn w D m c F k d raws os ps → (Lit.int .i64 n).wf = true →
  Calls Try.prog 15 #[.agg #[.slice D m c, .slice F k d], .int .i64 n] w (BuildP os ps n w)
section
variable {zs fr ys gr ps : List Int} {os : List Ob} {n : Int}
theorem sfO_ok (h : fromE zs fr = 0) : sfO zs fr = formO zs fr := if_pos h
theorem sfF_ok (h : fromE zs fr = 0) : sfF zs fr = formF zs fr := if_pos h
theorem sfO_bad (h : fromE zs fr ≠ 0) : sfO zs fr = [] := if_neg h
theorem sfF_bad (h : fromE zs fr ≠ 0) : sfF zs fr = [] := if_neg h
theorem aliE_one (h : fromE zs fr ≠ 0) : aliE zs fr ys gr = fromE zs fr := if_pos h
theorem aliE_two (h : fromE zs fr = 0) : aliE zs fr ys gr = fromE ys gr := if_neg (by simp [h])
theorem aliE_zero : aliE zs fr ys gr = 0 ↔ fromE zs fr = 0 ∧ fromE ys gr = 0 := by
  unfold aliE
  constructor
  · intro h
    split at h
    · rename_i h0; exact absurd h h0
    · rename_i h0; exact ⟨by simpa using h0, h⟩
  · rintro ⟨h1, h2⟩
    rw [if_neg (by simp [h1]), h2]
theorem aliB_ok (h : aliE zs fr ys gr = 0) : aliB zs fr ys gr = sameB zs fr ys gr := by unfold aliB; rw [decide_eq_true h]; rfl
theorem aliB_bad (h : aliE zs fr ys gr ≠ 0) : aliB zs fr ys gr = false := by unfold aliB; rw [decide_eq_false h]; rfl
theorem bldE_lay (h : layErr os n ≠ 0) : bldE os ps n = layErr os n := if_pos h
theorem bldE_none (h : layErr os n = 0) (h1 : ps.all (atB os) = false) : bldE os ps n = 5 := by unfold bldE; rw [if_neg (by simp [h]), if_neg (by simp [h1])]
theorem bldE_ok (h : layErr os n = 0) (h1 : ps.all (atB os) = true) : bldE os ps n = 0 := by unfold bldE; rw [if_neg (by simp [h]), if_pos h1]
theorem bldE_zero (h : bldE os ps n = 0) : layErr os n = 0 ∧ ps.all (atB os) = true := by
  unfold bldE at h
  split at h
  · rename_i h0; exact absurd h h0
  · rename_i h0
    split at h
    · rename_i h1; exact ⟨by simpa using h0, h1⟩
    · omega
theorem bldA_ok (h : bldE os ps n = 0) : bldA os ps n = layWords os n.toNat := if_pos h
theorem bldA_bad (h : bldE os ps n ≠ 0) : bldA os ps n = [] := if_neg h
theorem bldF_ok (h : bldE os ps n = 0) : bldF os ps n = ps.map (fun k => (offs os k.toNat : Int)) := if_pos h
theorem bldF_bad (h : bldE os ps n ≠ 0) : bldF os ps n = [] := if_neg h
end
end Go.Proofs.Ytjefbekdjgmmbaa
