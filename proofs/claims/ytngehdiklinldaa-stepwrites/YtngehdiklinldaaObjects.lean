/-
  Contracts of package walk's object and Objects.
-/
import Derived.Test.YtngehdiklinldaaObjM
import Derived.Test.YtngehdiklinldaaRead2
import Derived.Test.YtngehdiklinldaaClone
import Derived.Deep.RegionHeld3
import Derived.Test.YtngehdiklinldaaObjOwn
namespace Go.Proofs.Ytngehdiklinldaa
open Go.RowKit

theorem i64_info : (Try.prog.info? 3).map (fun i => (i.zero, i.size, i.bytes)) = some (some (.int .i64 0), 1, 8) := by kernel_rfl

/-- What holds while object goes over the references. -/
structure ObjI (zs : List Int) (s : Nat) (w : World) (A : Option Addr) (n c : Nat) (A2 : Option Addr) (m c2 b N R Bd : Nat) (T : Int) (F : Bool) (i : Nat) (v : Value) (wr : World) : Prop where
  hb : Box wr w.heap.size 116 #[.slice A n c, .slice A2 m c2, .map (some b)]
  sb : Box wr (w.heap.size + 1) 83 #[.int .i64 s, .int .i64 R, .int .i64 Bd, .int .i64 T, .bool F]
  rb : Box wr (w.heap.size + 1 + 1) 152 #[.int .i64 0, .slice none 0 0, .slice none 0 0, .bool false]
  ob : Box wr (w.heap.size + 1 + 1 + 1) 152 #[.int .i64 T, v, .slice none 0 0, .bool F]
  own : Own .i64 3 wr (w.heap.size + 1 + 1 + 1 + 1) v (((refWords zs s).take i).map (fun x => (ixOf zs x).getD 0))
  below : Below w.heap.size w wr
section
variable {zs : List Int} {s : Nat} {w : World} {A : Option Addr} {n c : Nat} {A2 : Option Addr} {m c2 b N R Bd : Nat} {T : Int} {F : Bool} {i : Nat} {v v' : Value} {wr wr' : World}
theorem ObjI.next (h : ObjI zs s w A n c A2 m c2 b N R Bd T F i v wr) (hb : Below wr.heap.size wr wr') : ObjI zs s w A n c A2 m c2 b N R Bd T F i v wr' :=
  ⟨h.hb.below hb h.hb.lt, h.sb.below hb h.sb.lt, h.rb.below hb h.rb.lt, h.ob.below hb h.ob.lt, h.own.below hb, h.below.trans (hb.mono h.below.size)⟩
theorem ObjI.size (h : ObjI zs s w A n c A2 m c2 b N R Bd T F i v wr) : w.heap.size + 1 + 1 + 1 + 1 ≤ wr.heap.size := h.ob.lt
theorem ObjI.push (h : ObjI zs s w A n c A2 m c2 b N R Bd T F i v wr) (hb : Below (w.heap.size + 1 + 1 + 1 + 1) wr wr') (hO : Own .i64 3 wr' (w.heap.size + 1 + 1 + 1 + 1) v' (((refWords zs s).take (i + 1)).map (fun x => (ixOf zs x).getD 0))) :
    ObjI zs s w A n c A2 m c2 b N R Bd T F (i + 1) v' (wr'.setCell ⟨w.heap.size + 1 + 1 + 1, 1, none⟩ v') :=
  ⟨by
    have := (h.hb.below hb (by omega))
    exact (show _ = _ from by
      show ((wr'.setCell _ _).heap)[w.heap.size]? = _
      show (wr'.heap.modify (w.heap.size + 1 + 1 + 1) _)[w.heap.size]? = _
      rw [Array.getElem?_modify, if_neg (by omega)]; exact this),
   by
    have := (h.sb.below hb (by omega))
    show (wr'.heap.modify (w.heap.size + 1 + 1 + 1) _)[w.heap.size + 1]? = _
    rw [Array.getElem?_modify, if_neg (by omega)]; exact this,
   by
    have := (h.rb.below hb (by omega))
    show (wr'.heap.modify (w.heap.size + 1 + 1 + 1) _)[w.heap.size + 1 + 1]? = _
    rw [Array.getElem?_modify, if_neg (by omega)]; exact this,
   (h.ob.below hb (by omega)).set 1 v', hO.setOther (by omega) 1 v', below_set (h.below.trans (hb.mono (by omega))) (by omega) 1 v'⟩
end

theorem obj_info : (Try.prog.info? 152).map (fun i => (i.zero, i.size, i.bytes)) = some (some (.agg #[.int .i64 0, .slice none 0 0, .slice none 0 0, .bool false]), 4, 64) := by kernel_rfl

theorem Read_any (A : Option Addr) (n c : Nat) (zs : List Int) (w : World) (hn : n ≤ maxLen) (hnc : n ≤ c) (ha : Arr .u64 w w.heap.size A n zs) :
    Calls Try.prog 77 #[.slice A n c] w (ReadP A n c zs w) := by
  by_cases h : spErr zs = 0
  · exact read_good A n c zs w hnc ha h
  · exact read_bad1 A n c zs w hn ha h

set_option maxHeartbeats 400000 in
theorem Check_any (A : Option Addr) (n c : Nat) (zs : List Int) (w : World) (hn : n ≤ maxLen) (hnc : n ≤ c) (ha : Arr .u64 w w.heap.size A n zs) :
    Calls Try.prog 60 #[.slice A n c] w fun e w' => e = .returned (.int .i64 (arErr zs)) ∧ Below w.heap.size w w' := by
  have HR := Lib.hid (Read_any A n c zs w hn hnc ha)
  clear ha hn
  go_enter Try.func60, Try.ntmps60
  go_wp2_with fail
  refine HR.out.mono ?_
  rintro e w1 ⟨b1, h⟩
  have HB := Lib.hid b1
  clear b1 HR
  rcases h with ⟨h0, rfl⟩ | ⟨h0, A2, c2, b, rfl, _⟩
  · clear h0
    go_wp2
    go_ret
    exact ⟨rfl, HB.out.alloc HB.out.size _⟩
  · have H0 := Lib.hid h0
    clear h0
    go_wp2
    go_ret
    exact ⟨by rw [H0.out]; rfl, HB.out.alloc HB.out.size _⟩

/-- The descriptions of an arena's objects. -/
def obsOf (zs : List Int) : List Ob := (begins zs 0).map (obOf zs)
/-- What Objects answers. -/
def ObjectsP (zs : List Int) (w : World) (e : Ending) (w' : World) : Prop := ∃ A k c, e = .returned (.tuple #[.slice A k c, .int .i64 (arErr zs)]) ∧ Below w.heap.size w w' ∧ k ≤ c ∧
  ((arErr zs ≠ 0 ∧ k = 0) ∨ (arErr zs = 0 ∧ k = (begins zs 0).length ∧ ∃ raws : List Raw, ArrG rawC 4 w' w'.heap.size A k raws ∧ ∀ j, j < k → ObV w' w.heap.size w'.heap.size (nthG raws j) (obOf zs (st zs j))))

/-- What holds while Objects goes over the spots. -/
structure ObsI (zs : List Int) (w : World) (A : Option Addr) (n c : Nat) (A2 : Option Addr) (m c2 b gh g k : Nat) (raws : List Raw) (wr : World) : Prop where
  hb : Box wr gh 116 #[.slice A n c, .slice A2 m c2, .map (some b)]
  own : OwnG rawC 4 152 wr g (.slice (some ⟨g, 0, none⟩) m m) raws
  len : raws.length = m
  obs : ∀ j, j < k → ObV wr (g + 1) wr.heap.size (nthG raws j) (obOf zs (st zs j))
  spots : ArrG spotC 5 wr gh A2 m (spList zs)
  map : MapF Try.prog .u64 .i64 52 3 wr b 300 (ixOf zs)
  below : Below w.heap.size w wr
  o1 : w.heap.size ≤ gh
  o2 : b < gh
  o3 : gh < g
  o4 : g < wr.heap.size
theorem nthG_put_same {α : Type} [Inhabited α] (l : List α) (j : Nat) (a : α) (h : j < l.length) : nthG (l.set j a) j = a := by rw [nthG_get _ _ (by simpa using h)]; simp
theorem nthG_put_other {α : Type} [Inhabited α] (l : List α) {i j : Nat} (a : α) (h : i ≠ j) : nthG (l.set i a) j = nthG l j := by unfold nthG; simp [List.getD, List.getElem?_set_ne h]
section
variable {zs : List Int} {w : World} {A : Option Addr} {n c : Nat} {A2 : Option Addr} {m c2 b gh g k : Nat} {raws : List Raw} {wr wr' : World}
theorem ObsI.next (h : ObsI zs w A n c A2 m c2 b gh g k raws wr) (hb : Below wr.heap.size wr wr') : ObsI zs w A n c A2 m c2 b gh g k raws wr' :=
  ⟨h.hb.below hb h.hb.lt, h.own.below hb, h.len, fun j hj => ((h.obs j hj).below hb (Nat.le_refl _)).more hb.size, h.spots.below hb (Nat.le_of_lt h.hb.lt), h.map.below hb h.map.lt, h.below.trans (hb.mono h.below.size), h.o1, h.o2, h.o3, Nat.lt_of_lt_of_le h.o4 hb.size⟩
theorem ObsI.store (h : ObsI zs w A n c A2 m c2 b gh g k raws wr) (hk : k < m) {r : Raw} (hr : ObV wr (g + 1) wr.heap.size r (obOf zs (st zs k))) :
    ObsI zs w A n c A2 m c2 b gh g (k + 1) (raws.set k r) ((((wr.setCell ⟨g, k * 4, none⟩ (.int .i64 r.t)).setCell ⟨g, k * 4 + 1, none⟩ (.slice r.ra r.rn r.rc)).setCell ⟨g, k * 4 + 2, none⟩ (.slice r.ba r.bn r.bc)).setCell ⟨g, k * 4 + 3, none⟩ (.bool r.f)) := by
  have hs : ((((wr.setCell ⟨g, k * 4, none⟩ (.int .i64 r.t)).setCell ⟨g, k * 4 + 1, none⟩ (.slice r.ra r.rn r.rc)).setCell ⟨g, k * 4 + 2, none⟩ (.slice r.ba r.bn r.bc)).setCell ⟨g, k * 4 + 3, none⟩ (.bool r.f)).heap.size = wr.heap.size := by simp [World.setCell]
  have hb : Below g wr ((((wr.setCell ⟨g, k * 4, none⟩ (.int .i64 r.t)).setCell ⟨g, k * 4 + 1, none⟩ (.slice r.ra r.rn r.rc)).setCell ⟨g, k * 4 + 2, none⟩ (.slice r.ba r.bn r.bc)).setCell ⟨g, k * 4 + 3, none⟩ (.bool r.f)) := below_set4 (Below.refl _ _) (Nat.le_refl _) _ _ _ _ _ _ _ _
  have hl := h.len
  have o1 := h.o1
  have o2 := h.o2
  have o3 := h.o3
  refine ⟨h.hb.below hb h.o3, h.own.put4 k r (by omega), by simpa using h.len, fun j hj => ?_, h.spots.below hb (by omega), h.map.below hb (by omega), h.below.trans (hb.mono (by omega)), h.o1, h.o2, h.o3, by rw [hs]; exact h.o4⟩
  rw [hs]
  rcases Nat.lt_succ_iff_lt_or_eq.1 hj with hj | hj
  · rw [nthG_put_other _ _ (by omega)]
    exact (h.obs j hj).setOther4 (by omega) _ _ _ _ _ _ _ _
  · subst hj
    rw [nthG_put_same _ _ _ (by omega)]
    exact hr.setOther4 (by omega) _ _ _ _ _ _ _ _
end

end Go.Proofs.Ytngehdiklinldaa
