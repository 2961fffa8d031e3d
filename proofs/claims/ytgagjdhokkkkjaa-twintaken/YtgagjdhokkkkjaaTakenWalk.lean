/-
  The walk of TwinTaken.
-/
import Derived.Test.YtgagjdhokkkkjaaTwinN
namespace Go.Proofs.Ytgagjdhokkkkjaa
open Go.RowKit

set_option maxHeartbeats 400000 in
theorem taken1_any (x y : Nat) (z : Int) (a L g : Nat) (w : World) (hx : x ≤ 1000) (hy : y ≤ 1000) (ha : a ≤ 1000) (hL : L ≤ 1000) (hg : Box w g 29 #[.int .i64 a, .int .i64 L]) :
    Calls Try.prog 20 #[.agg #[.int .i64 x, .int .i64 y, .int .i64 z], .pointer (some ⟨g, 0, none⟩)] w fun e w' => e = .returned (.bool (meets ((x : Int), (y : Int), z) a L)) ∧ Below w.heap.size w w' := by
  have HB := Lib.hid ((Below.refl _ w).alloc (Nat.le_refl _) (.cells #[.int .i64 x, .int .i64 y, .int .i64 z] 42))
  have hlt := hg.lt
  have c0 : w.cell? ⟨g, 0, none⟩ = some (.int .i64 a) := hg.cell 0
  have c1 : w.cell? ⟨g, 1, none⟩ = some (.int .i64 L) := hg.cell 1
  clear hg
  have hm : meets ((x : Int), (y : Int), z) a L = (decide ((x : Int) < (a : Int) + L) && decide ((a : Int) < (x : Int) + y)) := rfl
  rw [hm]
  clear hm
  by_cases h1 : (x : Int) < (a : Int) + L
  · by_cases h2 : (a : Int) < (x : Int) + y
    · rw [decide_eq_true h1, decide_eq_true h2]
      go_enter Try.func20, Try.ntmps20
      go_wp2
      go_ret
      exact ⟨rfl, HB.out⟩
    · rw [decide_eq_true h1, decide_eq_false h2]
      go_enter Try.func20, Try.ntmps20
      go_wp2
      go_ret
      exact ⟨rfl, HB.out⟩
  · rw [decide_eq_false h1]
    go_enter Try.func20, Try.ntmps20
    go_wp2
    go_ret
    exact ⟨rfl, HB.out⟩

theorem takenHit_any (A : Option Addr) (n c B : Nat) (l : List Room) (a L g : Nat) (w : World) (hn : n ≤ maxLen) (hB : B ≤ w.heap.size) (hx : ArrG roomC 3 w B A n l) (hs : Small l) (ha : a ≤ 1000) (hL : L ≤ 1000) (hg : Box w g 29 #[.int .i64 a, .int .i64 L]) :
    Calls Try.prog 19 #[.slice A n c, .func (.func 20) #[] #[.pointer (some ⟨g, 0, none⟩)]] w fun e w' => e = .returned (.bool (hit l a L)) ∧ Below w.heap.size w w' := by
  rw [← hit_range, hx.1]
  refine containsRoom A n c B 20 _ l _ w hn hB hx (fun args wx => Try.call20 args wx) fun wx hwx j hj => ?_
  obtain ⟨x, y, h1, h2, h3, h4⟩ := hs j (by rw [hx.1]; exact hj)
  have := taken1_any x y (nthG l j).2.2 a L g wx h3 h4 ha hL (hg.below hwx hg.lt)
  rw [← h1, ← h2] at this
  exact this

set_option maxRecDepth 8000 in
set_option maxHeartbeats 2000000 in
theorem twinTaken_walk (o : Int) (A : Option Addr) (n c : Nat) (l : List Room) (m : Int) (w : World) (hH : HalvesIn w A n c l) :
    Calls Try.prog 4 #[.agg #[.int .i64 o, .slice A n c], .int .i64 m] w fun e w' => e = .returned (.bool true) ∧ Below w.heap.size w w' := by
  obtain ⟨hnc, hR⟩ := hH
  have b0 := (Below.refl _ w).alloc (Nat.le_refl _) (.cells #[.int .i64 o, .slice A n c] 24)
  have x0 := Box.new w 24 #[.int .i64 o, .slice A n c]
  have HT := Lib.hid (twins_any (w.alloc (.cells #[.int .i64 o, .slice A n c] 24)))
  have HB0 := Lib.hid b0
  have HX0 := Lib.hid x0
  have HR := Lib.hid hR
  clear b0 x0 hR
  go_enter Try.func4, Try.ntmps4
  go_wp2_with fail
  refine HT.out.mono ?_
  rintro e w1 ⟨rfl, hb1⟩
  have B0 := HX0.out.below hb1 HX0.out.lt
  have hb := HB0.out.trans (hb1.mono HB0.out.size)
  have HTk := Lib.hid (takeH_any o A n c l m w1 hnc (HR.out.below hb))
  unfold TakePH at HTk
  have c0 : w1.cell? ⟨w.heap.size, 0, none⟩ = some (.int .i64 o) := B0.cell 0
  have c1 : w1.cell? ⟨w.heap.size, 1, none⟩ = some (.slice A n c) := B0.cell 1
  have HB := Lib.hid hb
  have HB1 := Lib.hid B0
  clear hb1 HT HX0 HB0 B0 hb
  go_wp2_with fail
  refine HTk.out.mono ?_
  rintro e w2 ⟨v, rfl, hO, hb2⟩
  obtain ⟨A2, c2, rfl, _, _⟩ := hO.arr roomC_len
  have B0 := HB1.out.below hb2 HB1.out.lt
  have hb := HB.out.trans (hb2.mono HB.out.size)
  clear HTk c0 c1 HB1 HB hb2
  by_cases hE : takeE o l m = 0
  · obtain ⟨k, p, b, i, j, T⟩ := takeE_zero hE
    obtain rfl := T.order
    obtain ⟨u1, u2, u3, u4⟩ := take_some hE
    rw [T.taken] at u2 u3 u4
    rw [u4] at hO ⊢
    simp only at u2 u3
    rw [u1, u2, u3, hE]
    obtain ⟨hN, hNc, hRm⟩ := hO.rooms T.after
    have hlen := insL_length ((b : Int), ((pw j : Nat) : Int), m) l
    have hln := HR.out.2.1.1
    have hN1 : (insL ((b : Int), ((pw j : Nat) : Int), m) l).length = n + 1 := by rw [hlen, hln]
    obtain ⟨M, rfl⟩ := Int.eq_ofNat_of_zero_le (by have := T.lo; omega : 0 ≤ m)
    have h256 := pw_256 T.right.small
    have hs1 := T.size.1
    have hs2 := T.size.2
    have hins := T.inside
    have hn256 : n ≤ 256 := by have := T.right.len; omega
    have hMk := T.hi
    have y1 := (B0.alloc (.cells #[.int .i64 k, .slice A2 (n + 1) c2] 24)).alloc (.cells #[.int .i64 b, .int .i64 (pw j)] 29)
    have y2 := (Box.new w2 24 #[.int .i64 k, .slice A2 (n + 1) c2]).alloc (.cells #[.int .i64 b, .int .i64 (pw j)] 29)
    have y3 := Box.new (w2.alloc (.cells #[.int .i64 k, .slice A2 (n + 1) c2] 24)) 29 #[.int .i64 b, .int .i64 (pw j)]
    have z1 : (w2.alloc (.cells #[.int .i64 k, .slice A2 (n + 1) c2] 24)).heap.size = w2.heap.size + 1 := by simp
    rw [z1] at y3
    have v1 := ((Below.refl _ w2).alloc (Nat.le_refl _) (.cells #[.int .i64 k, .slice A2 (n + 1) c2] 24)).alloc (by omega) (.cells #[.int .i64 b, .int .i64 (pw j)] 29)
    rw [hN1] at hRm ⊢
    have HC := Lib.hid (checkH_any k A2 (n + 1) c2 (insL ((b : Int), ((pw j : Nat) : Int), (M : Int)) l) _ (hRm.below v1))
    rw [T.after.ok] at HC
    have HH : Hid (∀ wx, Below w.heap.size w wx → Box wx (w2.heap.size + 1) 29 #[.int .i64 b, .int .i64 (pw j)] → Calls Try.prog 19 #[.slice A n c, .func (.func 20) #[] #[.pointer (some ⟨w2.heap.size + 1, 0, none⟩)]] wx fun e w' => e = .returned (.bool false) ∧ Below wx.heap.size wx w') := fun wx hwx hbx => by
      have := takenHit_any A n c w.heap.size l b (pw j) (w2.heap.size + 1) wx HR.out.1 hwx.size (HR.out.2.1.below hwx (Nat.le_refl _)) T.right.smallR (by omega) (by omega) hbx
      rw [T.nohit] at this
      exact this
    have HBv := Lib.hid (hb.trans (v1.mono hb.size))
    have Y1 := Lib.hid y1
    have Y2 := Lib.hid y2
    have Y3 := Lib.hid y3
    have hw2 : ¬ ((pw j : Nat) : Int) < (M : Int) := by omega
    have hw3 : ¬ (2 * (M : Int) ≤ ((pw j : Nat) : Int)) := by omega
    have hM5 : M ≤ 256 := by omega
    have hnn : (((n : Int) + 1) != ((n : Int) + 1)) = false := by simp
    clear hO hRm hN hNc u1 u2 u3 u4 T hlen hln hN1 hs1 hs2 hins hMk y1 y2 y3 v1 z1 hb HR B0 hE
    generalize pw j = L at *
    generalize hIL : insL ((b : Int), (L : Int), (M : Int)) l = IL at *
    clear hIL
    go_wp2_with fail
    refine HC.out.mono ?_
    rintro e w3 ⟨rfl, hb3⟩
    have D1 := Y1.out.below hb3 Y1.out.lt
    have D2 := Y2.out.below hb3 Y2.out.lt
    have D3 := Y3.out.below hb3 Y3.out.lt
    have hb := HBv.out.trans (hb3.mono HBv.out.size)
    have c0 : w3.cell? ⟨w.heap.size, 0, none⟩ = some (.int .i64 k) := D1.cell 0
    have c1 : w3.cell? ⟨w.heap.size, 1, none⟩ = some (.slice A n c) := D1.cell 1
    have d0 : w3.cell? ⟨w2.heap.size, 0, none⟩ = some (.int .i64 k) := D2.cell 0
    have d1 : w3.cell? ⟨w2.heap.size, 1, none⟩ = some (.slice A2 (n + 1) c2) := D2.cell 1
    have f0 : w3.cell? ⟨w2.heap.size + 1, 0, none⟩ = some (.int .i64 b) := D3.cell 0
    have f1 : w3.cell? ⟨w2.heap.size + 1, 1, none⟩ = some (.int .i64 L) := D3.cell 1
    have HB := Lib.hid hb
    have HHq := Lib.hid (HH.out w3 hb D3)
    clear hb hb3 D1 D2 D3 HH HC Y1 Y2 Y3 HBv
    go_wp2_with fail
    refine HHq.out.mono ?_
    rintro e w4 ⟨rfl, hb4⟩
    have HBe := Lib.hid (HB.out.trans (hb4.mono HB.out.size))
    clear hb4
    go_wp2
    go_ret
    exact ⟨rfl, HBe.out⟩
  · obtain ⟨u1, u2, u3, u4⟩ := take_none hE
    rw [u4] at hO ⊢
    rw [u1, u2, u3]
    have hne : (takeE o l m != 0) = true := by simpa using hE
    have v1 := ((Below.refl _ w2).alloc (Nat.le_refl _) (.cells #[.int .i64 0, .slice A2 0 c2] 24)).alloc (Nat.le_of_lt (by simp)) (.cells #[.int .i64 0, .int .i64 0] 29)
    have HBe := Lib.hid (hb.trans (v1.mono hb.size))
    clear u1 u2 u3 u4 hO v1 hb HR B0
    generalize takeE o l m = E at *
    simp only [List.length_nil]
    go_wp2
    go_ret
    exact ⟨rfl, HBe.out⟩
end Go.Proofs.Ytgagjdhokkkkjaa
