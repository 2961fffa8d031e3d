/-
  Contract of twin.Give.
-/
import Derived.Test.YtdieokpfkojoiaaTwinF
namespace Go.Proofs.Ytdieokpfkojoiaa
open Go.RowKit

def hasB (x : Int) (l : List Room) : Bool := l.any fun r => r.1 == x
def giveE (o : Int) (l : List Room) (x : Int) : Int := if hErr o l = 0 then (if hasB x l = true then 0 else 5) else hErr o l
def giveO (o : Int) (l : List Room) (x : Int) : Int := if giveE o l x = 0 then o else 0
def giveL (o : Int) (l : List Room) (x : Int) : List Room := if giveE o l x = 0 then eraseL x l else []
def GiveP (o : Int) (l : List Room) (x : Int) (w : World) (e : Ending) (w' : World) : Prop := ∃ v, e = .returned (.tuple #[.agg #[.int .i64 (giveO o l x), v], .int .i64 (giveE o l x)]) ∧ OwnG roomC 3 42 w' w.heap.size v (giveL o l x) ∧ Below w.heap.size w w'

set_option maxHeartbeats 400000 in
theorem give1_any (x y z a : Int) (g : Nat) (w : World) (hg : Box w g 3 #[.int .i64 a]) :
    Calls Try.prog 38 #[.agg #[.int .i64 x, .int .i64 y, .int .i64 z], .pointer (some ⟨g, 0, none⟩)] w fun e w' => e = .returned (.bool (x == a)) ∧ Below w.heap.size w w' := by
  have HB := Lib.hid ((Below.refl _ w).alloc (Nat.le_refl _) (.cells #[.int .i64 x, .int .i64 y, .int .i64 z] 42))
  have hlt := hg.lt
  have c0 : w.cell? ⟨g, 0, none⟩ = some (.int .i64 a) := hg.cell 0
  clear hg
  obtain ⟨M, hM⟩ : ∃ M, (x == a) = M := ⟨_, rfl⟩
  rw [hM]
  go_enter Try.func38, Try.ntmps38
  go_wp2
  go_ret
  exact ⟨rfl, HB.out⟩

theorem hasB_true {x : Int} {l : List Room} {j : Nat} (hj : j < l.length) (h : (nthG l j).1 = x) : hasB x l = true := by
  rw [nthG_get _ _ hj] at h
  exact List.any_eq_true.2 ⟨_, List.getElem_mem hj, by simpa using h⟩
theorem hasB_false {x : Int} {l : List Room} (h : ∀ j, j < l.length → ((nthG l j).1 == x) = false) : hasB x l = false := by
  unfold hasB
  rw [List.any_eq_false]
  intro r hr
  obtain ⟨j, hj, rfl⟩ := List.getElem_of_mem hr
  have := h j hj
  rw [nthG_get _ _ hj] at this
  rw [this]; decide

set_option maxRecDepth 8000 in
set_option maxHeartbeats 2000000 in
theorem give_any (o : Int) (A : Option Addr) (n c : Nat) (l : List Room) (x : Int) (w : World) (hnc : n ≤ c) (hR : RoomsIn w A n l) :
    Calls Try.prog 9 #[.agg #[.int .i64 o, .slice A n c], .int .i64 x] w (GiveP o l x w) := by
  have hsz : (w.alloc (.cells #[.int .i64 o, .slice A n c] 24)).heap.size = w.heap.size + 1 := by simp
  have hsz2 : ((w.alloc (.cells #[.int .i64 o, .slice A n c] 24)).alloc (.cells #[.int .i64 x] 3)).heap.size = w.heap.size + 1 + 1 := by simp
  have b0 := (((Below.refl _ w).alloc (Nat.le_refl _) (.cells #[.int .i64 o, .slice A n c] 24)).alloc (by omega) (.cells #[.int .i64 x] 3)).alloc (by omega) (.cells #[.int .i64 0, .slice none 0 0] 24)
  have x1 := ((Box.new w 24 #[.int .i64 o, .slice A n c]).alloc (.cells #[.int .i64 x] 3)).alloc (.cells #[.int .i64 0, .slice none 0 0] 24)
  have x2 := (Box.new (w.alloc (.cells #[.int .i64 o, .slice A n c] 24)) 3 #[.int .i64 x]).alloc (.cells #[.int .i64 0, .slice none 0 0] 24)
  have x3 := Box.new ((w.alloc (.cells #[.int .i64 o, .slice A n c] 24)).alloc (.cells #[.int .i64 x] 3)) 24 #[.int .i64 0, .slice none 0 0]
  rw [hsz] at x2
  rw [hsz2] at x3
  have HC := Lib.hid (checkH_any o A n c l _ (hR.below b0))
  have HB0 := Lib.hid b0
  have HX1 := Lib.hid x1
  have HX2 := Lib.hid x2
  have HX3 := Lib.hid x3
  have HR := Lib.hid hR
  clear b0 x1 x2 x3 hsz hsz2 hR
  unfold GiveP
  go_enter Try.func9, Try.ntmps9
  go_wp2_with fail
  refine HC.out.mono ?_
  rintro e w2 ⟨rfl, hb2⟩
  have B1 := HX1.out.below hb2 HX1.out.lt
  have B2 := HX2.out.below hb2 HX2.out.lt
  have B3 := HX3.out.below hb2 HX3.out.lt
  have HB := Lib.hid (HB0.out.trans (hb2.mono HB0.out.size))
  clear hb2 HC HX1 HX2 HX3 HB0
  have c0 : w2.cell? ⟨w.heap.size, 0, none⟩ = some (.int .i64 o) := B1.cell 0
  have c1 : w2.cell? ⟨w.heap.size, 1, none⟩ = some (.slice A n c) := B1.cell 1
  have d0 : w2.cell? ⟨w.heap.size + 1 + 1, 0, none⟩ = some (.int .i64 0) := B3.cell 0
  have d1 : w2.cell? ⟨w.heap.size + 1 + 1, 1, none⟩ = some (.slice none 0 0) := B3.cell 1
  have s0 := B3.soft 0
  have s1 := B3.soft 1
  have HB1 := Lib.hid B1
  have HB2 := Lib.hid B2
  have HB3 := Lib.hid B3
  clear B1 B2 B3
  rcases hErr_cases o l with ⟨h0, k, rfl, hk, hok⟩ | ⟨h0, _⟩
  · rw [h0]
    have hrt := (right_iff hk).1 hok
    have hl := HR.out.2.1.1
    have hn256 : n ≤ 256 := by have := hrt.len; have := pw_256 hk; omega
    have HI := Lib.hid (indexRoom A n c w.heap.size 38 #[.pointer (some ⟨w.heap.size + 1, 0, none⟩)] l (fun j => (nthG l j).1 == x) w2 HR.out.1 HB.out.size (HR.out.2.1.below HB.out (Nat.le_refl _)) (fun args wx => Try.call38 args wx) (fun wx hwx j hj => give1_any _ _ _ x (w.heap.size + 1) wx (HB2.out.below hwx HB2.out.lt)))
    have H0 := Lib.hid h0
    have HLl := Lib.hid hl
    clear hrt hok h0 hl
    go_wp2_with fail
    refine HI.out.mono ?_
    rintro e w3 ⟨r, rfl, hb3, hr⟩
    have B1 := HB1.out.below hb3 HB1.out.lt
    have B3 := HB3.out.below hb3 HB3.out.lt
    have HBc := Lib.hid (HB.out.trans (hb3.mono HB.out.size))
    clear hb3 HI c0 c1 d0 d1 s0 s1 HB HB1 HB2 HB3
    have c0 : w3.cell? ⟨w.heap.size, 0, none⟩ = some (.int .i64 k) := B1.cell 0
    have c1 : w3.cell? ⟨w.heap.size, 1, none⟩ = some (.slice A n c) := B1.cell 1
    have d0 : w3.cell? ⟨w.heap.size + 1 + 1, 0, none⟩ = some (.int .i64 0) := B3.cell 0
    have d1 : w3.cell? ⟨w.heap.size + 1 + 1, 1, none⟩ = some (.slice none 0 0) := B3.cell 1
    have s0 := B3.soft 0
    have s1 := B3.soft 1
    have hlt3 := B3.lt
    have HB1 := Lib.hid B1
    have HB3 := Lib.hid B3
    clear B1 B3
    rcases hr with ⟨j, rfl, hj, hjx, hjl⟩ | ⟨rfl, hno⟩
    · have hjx' : (nthG l j).1 = x := by simpa using hjx
      have hE : giveE (k : Int) l x = 0 := by
        unfold giveE
        rw [if_pos H0.out, if_pos (hasB_true (by rw [HLl.out]; exact hj) hjx')]
      have hO1 : giveO (k : Int) l x = k := by unfold giveO; rw [if_pos hE]
      have hL1 : l.take j ++ l.drop (j + 1) = giveL (k : Int) l x := by
        unfold giveL
        rw [if_pos hE]
        exact eraseL_at (by rw [HLl.out]; exact hj) hjx' (fun t ht => by simpa using hjl t ht)
      have HE := Lib.hid hE
      have HO1 := Lib.hid hO1
      have HL1 := Lib.hid hL1
      obtain ⟨D1, hD1, hD1'⟩ := run_uptoG (P := Try.prog) Try.underlying22 roomS A n c j j rfl (by omega)
      obtain ⟨D2, hD2, hD2'⟩ := run_fromG (P := Try.prog) Try.underlying22 roomS A n c (j + 1) ((j : Int) + 1) (by omega) (by omega) hnc
      have hx := HR.out.2.1
      have ha1 : ArrG roomC 3 w3 w.heap.size D1 j (l.take j) := by
        have := (hx.below HBc.out (Nat.le_refl _)).cutG (p := 0) (q := j) (D := D1) (by omega) (fun b off h _ => by rw [hD1' b off h]; simp)
        simpa using this
      have ha2 : ArrG roomC 3 w3 w.heap.size D2 (n - (j + 1)) (l.drop (j + 1)) := by
        have := (hx.below HBc.out (Nat.le_refl _)).cutG (p := j + 1) (q := n - (j + 1)) (D := D2) (by omega) hD2'
        rwa [List.take_of_length_le (by simp; have := HLl.out; omega)] at this
      have HC3 : Hid (Calls Try.prog 39 #[.slice (some ⟨w3.heap.size, 0, none⟩) 2 2] ((w3.alloc (.cells #[.slice D1 j c, .slice D2 (n - (j + 1)) (c - (j + 1))] 22)).drew)
          fun e w' => ∃ v, e = .returned v ∧ OwnG roomC 3 42 w' w3.heap.size v (giveL (k : Int) l x) ∧ Below w3.heap.size w3 w') := by
        show Calls _ _ _ _ _
        have u2 := (Below.refl _ w3).alloc (Nat.le_refl _) (.cells #[.slice D1 j c, .slice D2 (n - (j + 1)) (c - (j + 1))] 22)
        have bx := Box.new w3 22 #[.slice D1 j c, .slice D2 (n - (j + 1)) (c - (j + 1))]
        have a1 := ha1.below u2 HBc.out.size
        have a2 := ha2.below u2 HBc.out.size
        generalize (w3.alloc (.cells #[.slice D1 j c, .slice D2 (n - (j + 1)) (c - (j + 1))] 22)) = w6 at *
        have hlt := bx.lt
        have := concatRooms (sel3 D1 D2 none) (sel3 j (n - (j + 1)) 0) (sel3 c (c - (j + 1)) 0) (sel3 (l.take j) (l.drop (j + 1)) []) 2 2 w3.heap.size w.heap.size w6.drew (by omega) (fun i hi => by
            have : i = 0 ∨ i = 1 := by omega
            rcases this with rfl | rfl
            · show j ≤ 300; omega
            · show n - (j + 1) ≤ 300; omega) (Nat.le_trans HBc.out.size (Nat.le_of_lt hlt)) hlt (fun i hi => by
            have : i = 0 ∨ i = 1 := by omega
            rcases this with rfl | rfl
            · exact (a1 : ArrG roomC 3 w6 _ _ _ _)
            · exact (a2 : ArrG roomC 3 w6 _ _ _ _)) (fun i hi => by
            have : i = 0 ∨ i = 1 := by omega
            rcases this with rfl | rfl
            · exact bx.cell 0
            · exact bx.cell 1)
        rw [catTo_two, HL1.out] at this
        exact this.mono fun e w' ⟨v, he, hO, hb⟩ => ⟨v, he, hO.less u2.size, (below_drew u2).trans (hb.mono u2.size)⟩
      have hnj : ¬ (j : Int) < 0 := by omega
      have hwj : IntKind.i64.wrap ((j : Int) + 1) = (j : Int) + 1 := IntWalk.i64_in _ (by omega)
      clear ha1 ha2 hx hD1' hD2' hL1 hO1 hE hjx hjx' hjl HR HLl H0
      obtain ⟨GL, hGL⟩ : ∃ GL, giveL (k : Int) l x = GL := ⟨_, rfl⟩
      have HGL := Lib.hid hGL
      rw [hGL] at HC3
      clear hGL HL1
      go_wp2_with fail
      go_region_held3 (fun w' => w'.cell? ⟨w.heap.size, 0, none⟩ = some (.int .i64 k) ∧ w'.cell? ⟨w.heap.size, 1, none⟩ = some (.slice A n c))
        (first
          | go_keep
          | exact ⟨(hb4.cell (p := ⟨w.heap.size, 0, none⟩) (by show w.heap.size < _; omega)).trans c0, (hb4.cell (p := ⟨w.heap.size, 1, none⟩) (by show w.heap.size < _; omega)).trans c1⟩
          | exact ⟨(cell_setOther w4 (by omega) 0 _ _).trans ((hb4.cell (p := ⟨w.heap.size, 0, none⟩) (by show w.heap.size < _; omega)).trans c0), (cell_setOther w4 (by omega) 0 _ _).trans ((hb4.cell (p := ⟨w.heap.size, 1, none⟩) (by show w.heap.size < _; omega)).trans c1)⟩
          | exact ⟨(cell_setOther _ (by omega) 1 _ _).trans ((cell_setOther w4 (by omega) 0 _ _).trans ((hb4.cell (p := ⟨w.heap.size, 0, none⟩) (by show w.heap.size < _; omega)).trans c0)), (cell_setOther _ (by omega) 1 _ _).trans ((cell_setOther w4 (by omega) 0 _ _).trans ((hb4.cell (p := ⟨w.heap.size, 1, none⟩) (by show w.heap.size < _; omega)).trans c1))⟩)
        (first
          | (go_at_call 39; refine HC3.out.mono ?_; rintro e w4 ⟨v, rfl, hO, hb4⟩; obtain ⟨A4, c4, rfl, hc4, _⟩ := hO.arr roomC_len; have x3 := HB3.out.below hb4 hlt3; have z0 : w4.cell? ⟨w.heap.size + 1 + 1, 0, none⟩ = some (.int .i64 0) := x3.cell 0; have z1 : w4.cell? ⟨w.heap.size + 1 + 1, 1, none⟩ = some (.slice none 0 0) := x3.cell 1; have t0 := x3.soft 0; have t1 := x3.soft 1))
      generalize hN : GL.length = N at *
      have hbe := HBc.out.trans (hb4.mono HBc.out.size)
      have BX := Lib.hid (x3.set2 (.int .i64 k) (.slice A4 N c4))
      have BO := Lib.hid (((hO.setOther (g := w.heap.size + 1 + 1) hlt3 0 (.int .i64 k)).setOther (g := w.heap.size + 1 + 1) hlt3 1 (.slice A4 N c4)).less (base' := w.heap.size) (by omega))
      have BB := Lib.hid (below_set2 hbe (g := w.heap.size + 1 + 1) (by omega) 0 1 (.int .i64 k) (.slice A4 N c4))
      clear hb4 hO hbe x3 HC3 hc4 hN hD1 hD2 c0 c1 z0 z1 d0 d1 HBc
      go_wp2
      generalize ((w4.setCell ⟨w.heap.size + 1 + 1, 0, none⟩ (.int .i64 k)).setCell ⟨w.heap.size + 1 + 1, 1, none⟩ (.slice A4 N c4)) = W9 at *
      have q0 : W9.cell? ⟨w.heap.size + 1 + 1, 0, none⟩ = some (.int .i64 k) := BX.out.cell 0
      have q1 : W9.cell? ⟨w.heap.size + 1 + 1, 1, none⟩ = some (.slice A4 N c4) := BX.out.cell 1
      refine bodyPost_ret (v := .tuple #[.agg #[.int .i64 k, .slice A4 N c4], .int .i64 0]) (by simp [results, Try.results9, go_sem, q0, q1]) rfl ⟨_, by rw [HE.out, HO1.out], by rw [HGL.out]; exact BO.out, BB.out⟩
    · have hE : giveE (k : Int) l x = 5 := by
        unfold giveE
        rw [if_pos H0.out, if_neg (by rw [hasB_false (fun j hj => hno j (by rw [← HLl.out]; exact hj))]; decide)]
      have HE := Lib.hid hE
      have HO1 : Hid (giveO (k : Int) l x = 0) := by show _ = _; unfold giveO; rw [if_neg (by rw [hE]; decide)]
      have HL1 : Hid (giveL (k : Int) l x = []) := by show _ = _; unfold giveL; rw [if_neg (by rw [hE]; decide)]
      have BX := Lib.hid (HB3.out.set2 (.int .i64 0) (.slice none 0 0))
      have BB := Lib.hid (below_set2 HBc.out (g := w.heap.size + 1 + 1) (by omega) 0 1 (.int .i64 0) (.slice none 0 0))
      clear hE hno HR HLl H0 HBc
      go_wp2
      generalize ((w3.setCell ⟨w.heap.size + 1 + 1, 0, none⟩ (.int .i64 0)).setCell ⟨w.heap.size + 1 + 1, 1, none⟩ (.slice none 0 0)) = W9 at *
      have q0 : W9.cell? ⟨w.heap.size + 1 + 1, 0, none⟩ = some (.int .i64 0) := BX.out.cell 0
      have q1 : W9.cell? ⟨w.heap.size + 1 + 1, 1, none⟩ = some (.slice none 0 0) := BX.out.cell 1
      refine bodyPost_ret (v := .tuple #[.agg #[.int .i64 0, .slice none 0 0], .int .i64 5]) (by simp [results, Try.results9, go_sem, q0, q1]) rfl ⟨_, by rw [HE.out, HO1.out], by rw [HL1.out]; exact OwnG.nil, BB.out⟩
  · have hE : giveE o l x = hErr o l := by unfold giveE; rw [if_neg h0]
    have HE := Lib.hid hE
    have HO1 : Hid (giveO o l x = 0) := by show _ = _; unfold giveO; rw [hE, if_neg h0]
    have HL1 : Hid (giveL o l x = []) := by show _ = _; unfold giveL; rw [hE, if_neg h0]
    have hne : (hErr o l != 0) = true := by simpa using h0
    have hlt3 := HB3.out.lt
    have BX := Lib.hid (HB3.out.set2 (.int .i64 0) (.slice none 0 0))
    have BB := Lib.hid (below_set2 HB.out (g := w.heap.size + 1 + 1) (by omega) 0 1 (.int .i64 0) (.slice none 0 0))
    clear hE HR HB
    generalize hErr o l = E at *
    go_wp2
    generalize ((w2.setCell ⟨w.heap.size + 1 + 1, 0, none⟩ (.int .i64 0)).setCell ⟨w.heap.size + 1 + 1, 1, none⟩ (.slice none 0 0)) = W9 at *
    have q0 : W9.cell? ⟨w.heap.size + 1 + 1, 0, none⟩ = some (.int .i64 0) := BX.out.cell 0
    have q1 : W9.cell? ⟨w.heap.size + 1 + 1, 1, none⟩ = some (.slice none 0 0) := BX.out.cell 1
    refine bodyPost_ret (v := .tuple #[.agg #[.int .i64 0, .slice none 0 0], .int .i64 E]) (by simp [results, Try.results9, go_sem, q0, q1]) rfl ⟨_, by rw [HE.out, HO1.out], by rw [HL1.out]; exact OwnG.nil, BB.out⟩
end Go.Proofs.Ytdieokpfkojoiaa
