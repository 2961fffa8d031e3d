/-
  Contracts of package twin: overlap, freeIn, Gaps, Waste.
-/
import Derived.Test.YtdieokpfkojoiaaTwinC
import Derived.Deep.RegionHeld3
namespace Go.Proofs.Ytdieokpfkojoiaa
open Go.RowKit

theorem OwnG.less {α : Type} {enc : α → List Value} {size : Nat} {e : TypeId} {w : World} {base base' : Nat} {v : Value} {l : List α} (h : OwnG enc size e w base v l) (hb : base' ≤ base) : OwnG enc size e w base' v l :=
  ⟨h.1, h.2.imp id fun ⟨g, cap, cur, h1, h2, h3⟩ => ⟨g, cap, cur, h1, Nat.le_trans hb h2, h3⟩⟩
theorem runI : (Try.prog.info? 29).map (fun i => (i.zero, i.size, i.bytes)) = some (some (.agg #[.int .i64 0, .int .i64 0]), 2, 16) := by kernel_rfl

set_option maxHeartbeats 400000 in
theorem overlap_any (x y : Nat) (z : Int) (a L : Nat) (w : World) (hx : x ≤ 1000) (hy : y ≤ 1000) (ha : a ≤ 1000) (hL : L ≤ 1000) :
    Calls Try.prog 59 #[.agg #[.int .i64 x, .int .i64 y, .int .i64 z], .agg #[.int .i64 a, .int .i64 L]] w fun e w' => e = .returned (.bool (meets ((x : Int), (y : Int), z) a L)) ∧ Below w.heap.size w w' := by
  have HB := Lib.hid (((Below.refl _ w).alloc (Nat.le_refl _) (.cells #[.int .i64 x, .int .i64 y, .int .i64 z] 42)).alloc (Nat.le_of_lt (by simp)) (.cells #[.int .i64 a, .int .i64 L] 29))
  have hm : meets ((x : Int), (y : Int), z) a L = (decide ((x : Int) < (a : Int) + L) && decide ((a : Int) < (x : Int) + y)) := rfl
  rw [hm]
  clear hm
  by_cases h1 : (x : Int) < (a : Int) + L
  · by_cases h2 : (a : Int) < (x : Int) + y
    · rw [decide_eq_true h1, decide_eq_true h2]
      go_enter Try.func59, Try.ntmps59
      go_wp2
      go_ret
      exact ⟨rfl, HB.out⟩
    · rw [decide_eq_true h1, decide_eq_false h2]
      go_enter Try.func59, Try.ntmps59
      go_wp2
      go_ret
      exact ⟨rfl, HB.out⟩
  · rw [decide_eq_false h1]
    go_enter Try.func59, Try.ntmps59
    go_wp2
    go_ret
    exact ⟨rfl, HB.out⟩

/-- Rooms whose numbers are small. -/
def Small (l : List Room) : Prop := ∀ j, j < l.length → ∃ x y : Nat, (nthG l j).1 = x ∧ (nthG l j).2.1 = y ∧ x ≤ 1000 ∧ y ≤ 1000
theorem Right.smallR {k : Nat} {l : List Room} (h : Right k l) : Small l := fun j hj => by
  rw [nthG_get _ _ hj]
  obtain ⟨a, i, h1, h2, h3, h4, h5, _⟩ := h.good _ (List.getElem_mem hj)
  have := pw_256 h.small
  have := pw_le h3
  exact ⟨a, pw i, h1, h2, by omega, by omega⟩

set_option maxHeartbeats 400000 in
theorem freeIn1_any (x y : Nat) (z : Int) (a L g : Nat) (w : World) (hx : x ≤ 1000) (hy : y ≤ 1000) (ha : a ≤ 1000) (hL : L ≤ 1000) (hg : Box w g 29 #[.int .i64 a, .int .i64 L]) :
    Calls Try.prog 58 #[.agg #[.int .i64 x, .int .i64 y, .int .i64 z], .pointer (some ⟨g, 0, none⟩)] w fun e w' => e = .returned (.bool (meets ((x : Int), (y : Int), z) a L)) ∧ Below w.heap.size w w' := by
  have HB := Lib.hid ((Below.refl _ w).alloc (Nat.le_refl _) (.cells #[.int .i64 x, .int .i64 y, .int .i64 z] 42))
  have HO := Lib.hid (fun wx => overlap_any x y z a L wx hx hy ha hL)
  generalize meets ((x : Int), (y : Int), z) a L = M at *
  have hlt := hg.lt
  have c0 : w.cell? ⟨g, 0, none⟩ = some (.int .i64 a) := hg.cell 0
  have c1 : w.cell? ⟨g, 1, none⟩ = some (.int .i64 L) := hg.cell 1
  clear hg hx hy ha hL
  go_enter Try.func58, Try.ntmps58
  go_wp2_with fail
  refine (HO.out _).mono ?_
  rintro e w' ⟨rfl, hb⟩
  have HB2 := Lib.hid (HB.out.trans (hb.mono HB.out.size))
  clear hb
  go_wp2
  go_ret
  exact ⟨rfl, HB2.out⟩

/-- What freeIn answers. -/
def FreeP (l : List Room) (i a : Nat) (w : World) (e : Ending) (w' : World) : Prop := ∃ v, e = .returned v ∧ OwnG runC 2 29 w' w.heap.size v (freeL l i a) ∧ Below w.heap.size w w'
theorem hit_any (A : Option Addr) (n c B : Nat) (l : List Room) (a L g : Nat) (w : World) (hn : n ≤ maxLen) (hB : B ≤ w.heap.size) (hx : ArrG roomC 3 w B A n l) (hs : Small l) (ha : a ≤ 1000) (hL : L ≤ 1000) (hg : Box w g 29 #[.int .i64 a, .int .i64 L]) :
    Calls Try.prog 57 #[.slice A n c, .func (.func 58) #[] #[.pointer (some ⟨g, 0, none⟩)]] w fun e w' => e = .returned (.bool (hit l a L)) ∧ Below w.heap.size w w' := by
  rw [← hit_range, hx.1]
  refine containsRoom A n c B 58 _ l _ w hn hB hx (fun args wx => Try.call58 args wx) fun wx hwx j hj => ?_
  obtain ⟨x, y, h1, h2, h3, h4⟩ := hs j (by rw [hx.1]; exact hj)
  have := freeIn1_any x y (nthG l j).2.2 a L g wx h3 h4 ha hL (hg.below hwx hg.lt)
  rw [← h1, ← h2] at this
  exact this

set_option maxRecDepth 8000 in
set_option maxHeartbeats 1000000 in
theorem freeIn_any (A : Option Addr) (n c : Nat) (l : List Room) (hn : n ≤ maxLen) (hs : Small l) : ∀ (i a : Nat) (w : World), i ≤ 8 → a + pw i ≤ 1000 → ArrG roomC 3 w w.heap.size A n l →
    Calls Try.prog 40 #[.slice A n c, .agg #[.int .i64 a, .int .i64 (pw i)]] w (FreeP l i a w) := by
  intro i
  induction i with
  | zero =>
    intro a w hi hap hx
    have h1 := pw_zero
    have b0 := (Below.refl _ w).alloc (Nat.le_refl _) (.cells #[.int .i64 a, .int .i64 (pw 0)] 29)
    have HH := Lib.hid (hit_any A n c w.heap.size l a (pw 0) w.heap.size (w.alloc (.cells #[.int .i64 a, .int .i64 (pw 0)] 29)) hn b0.size (hx.below b0 (Nat.le_refl _)) hs (by omega) (by omega) (Box.new w _ _))
    have HB0 := Lib.hid b0
    unfold FreeP
    clear hx b0
    cases hh : hit l (a : Int) ((pw 0 : Nat) : Int)
    · rw [hh] at HH
      rw [freeL_open hh]
      clear hh
      rw [h1] at *
      go_enter Try.func40, Try.ntmps40
      go_wp2_with fail
      refine HH.out.mono ?_
      rintro e w2 ⟨rfl, hb2⟩
      obtain ⟨bx, hb⟩ := boxed_call hb2
      have c0 : w2.cell? ⟨w.heap.size, 0, none⟩ = some (.int .i64 a) := bx.cell 0
      have c1 : w2.cell? ⟨w.heap.size, 1, none⟩ = some (.int .i64 ((1 : Nat) : Int)) := bx.cell 1
      have HB := Lib.hid hb
      clear hb hb2 bx HH
      go_wp2
      go_ret
      exact ⟨_, rfl, (one_run w2 29 ((a : Int), ((1 : Nat) : Int))).less HB.out.size, HB.out.alloc HB.out.size _⟩
    · rw [hh] at HH
      rw [freeL_one hh]
      clear hh
      rw [h1] at *
      go_enter Try.func40, Try.ntmps40
      go_wp2_with fail
      refine HH.out.mono ?_
      rintro e w2 ⟨rfl, hb2⟩
      obtain ⟨bx, hb⟩ := boxed_call hb2
      have c0 : w2.cell? ⟨w.heap.size, 0, none⟩ = some (.int .i64 a) := bx.cell 0
      have c1 : w2.cell? ⟨w.heap.size, 1, none⟩ = some (.int .i64 ((1 : Nat) : Int)) := bx.cell 1
      have HB := Lib.hid hb
      clear hb hb2 bx HH
      go_wp2
      go_ret
      exact ⟨_, rfl, OwnG.nil, HB.out⟩
  | succ i ih =>
    intro a w hi hap hx
    have h1 := pw_succ i
    have h0 := pw_pos i
    have h256 := pw_256 hi
    have b0 := (Below.refl _ w).alloc (Nat.le_refl _) (.cells #[.int .i64 a, .int .i64 (pw (i + 1))] 29)
    have HH := Lib.hid (hit_any A n c w.heap.size l a (pw (i + 1)) w.heap.size (w.alloc (.cells #[.int .i64 a, .int .i64 (pw (i + 1))] 29)) hn b0.size (hx.below b0 (Nat.le_refl _)) hs (by omega) (by omega) (Box.new w _ _))
    have HB0 := Lib.hid b0
    unfold FreeP
    cases hh : hit l (a : Int) ((pw (i + 1) : Nat) : Int)
    · rw [hh] at HH
      rw [freeL_open hh]
      clear hh ih hx b0 h1 h0
      generalize pw (i + 1) = L at *
      go_enter Try.func40, Try.ntmps40
      go_wp2_with fail
      refine HH.out.mono ?_
      rintro e w2 ⟨rfl, hb2⟩
      obtain ⟨bx, hb⟩ := boxed_call hb2
      have c0 : w2.cell? ⟨w.heap.size, 0, none⟩ = some (.int .i64 a) := bx.cell 0
      have c1 : w2.cell? ⟨w.heap.size, 1, none⟩ = some (.int .i64 L) := bx.cell 1
      have HB := Lib.hid hb
      clear hb hb2 bx HH
      go_wp2
      go_ret
      exact ⟨_, rfl, (one_run w2 29 ((a : Int), (L : Int))).less HB.out.size, HB.out.alloc HB.out.size _⟩
    · rw [hh] at HH
      rw [freeL_half hh]
      have HI1 : Hid (∀ wx, Below w.heap.size w wx → Calls Try.prog 40 #[.slice A n c, .agg #[.int .i64 a, .int .i64 (pw i)]] wx (FreeP l i a wx)) := fun wx hwx => ih a wx (by omega) (by omega) ((hx.below hwx (Nat.le_refl _)).more hwx.size)
      have HI2 : Hid (∀ wx, Below w.heap.size w wx → Calls Try.prog 40 #[.slice A n c, .agg #[.int .i64 ((a + pw i : Nat) : Int), .int .i64 (pw i)]] wx (FreeP l i (a + pw i) wx)) := fun wx hwx => ih (a + pw i) wx (by omega) (by omega) ((hx.below hwx (Nat.le_refl _)).more hwx.size)
      have hl1 := freeL_len l i a
      have hl2 := freeL_len l i (a + pw i)
      unfold FreeP at HI1 HI2
      generalize freeL l i (a + pw i) = G2 at *
      generalize freeL l i a = G1 at *
      have HQ1 := Lib.hid hl1
      have HQ2 := Lib.hid hl2
      clear hh ih hx b0 hl1 hl2
      have htd : ((pw (i + 1) : Nat) : Int).tdiv 2 = ((pw i : Nat) : Int) := by rw [h1]; show ((2 * pw i / 2 : Nat) : Int) = _; congr 1; omega
      have hne : (((pw (i + 1) : Nat) : Int) == 1) = false := by simp; omega
      have hw : wrap64 ((pw i : Nat) : Int) = ((pw i : Nat) : Int) := by unfold wrap64; omega
      have hH : pw i ≤ 256 := by omega
      have haH : a + pw i ≤ 1000 := by omega
      clear h1 hap h256
      generalize pw (i + 1) = L at *
      generalize pw i = H at *
      go_enter Try.func40, Try.ntmps40
      go_wp2_with fail
      refine HH.out.mono ?_
      rintro e w2 ⟨rfl, hb2⟩
      obtain ⟨bx, hb⟩ := boxed_call hb2
      have c0 : w2.cell? ⟨w.heap.size, 0, none⟩ = some (.int .i64 a) := bx.cell 0
      have c1 : w2.cell? ⟨w.heap.size, 1, none⟩ = some (.int .i64 L) := bx.cell 1
      have HB := Lib.hid hb
      have BX := Lib.hid bx
      have HC1 := Lib.hid (HI1.out w2 hb)
      clear hb hb2 bx HH HI1
      go_wp2_with fail
      refine HC1.out.mono ?_
      rintro e w3 ⟨v1, rfl, hO1, hb3⟩
      have bx := BX.out.below hb3 BX.out.lt
      have hb := HB.out.trans (hb3.mono HB.out.size)
      have d0 : w3.cell? ⟨w.heap.size, 0, none⟩ = some (.int .i64 a) := bx.cell 0
      have d1 : w3.cell? ⟨w.heap.size, 1, none⟩ = some (.int .i64 L) := bx.cell 1
      have HB3 := Lib.hid hb
      have HO1 := Lib.hid (hO1.less HB.out.size)
      have HC2 := Lib.hid (HI2.out w3 hb)
      have hah : IntKind.i64.wrap ((a : Int) + (H : Int)) = ((a + H : Nat) : Int) := by rw [← Int.natCast_add]; exact IntWalk.i64_in _ (by omega)
      have hah2 : (a : Int) + (H : Int) = ((a + H : Nat) : Int) := by omega
      rw [← hah2] at HC2
      clear hb hb3 bx HC1 HI2 hO1 c0 c1 BX HB hah hah2
      go_wp2_with fail
      refine HC2.out.mono ?_
      rintro e w4 ⟨v2, rfl, hO2, hb4⟩
      obtain ⟨A2, c2, rfl, hc2, hA2⟩ := hO2.arr runC_len
      have hO1' := HO1.out.below hb4
      obtain ⟨v', w5, hrun, hO', hG'⟩ := hO1'.cat runC_len runC_one (by omega) (P := Try.prog) (t := 33) (ty := 33) (c := c2) Try.underlying33 runI rfl (by omega) hA2 (by have := HQ1.out; have := HQ2.out; omega) (Nat.le_trans HB3.out.size hb4.size)
      have HR := Lib.hid hrun
      have HO' := Lib.hid hO'
      have HB' := Lib.hid ((HB3.out.trans (hb4.mono HB3.out.size)).trans hG')
      clear hrun hO' hG' hO1' hA2 hc2 hO2 hb4 HC2 HO1 HB3 d0 d1
      go_wp2_with (at_builtin; refine wpList_append_run rfl (.tmp 25) (.tmp 33) 33 rfl rfl rfl HR.out ?_)
      go_ret
      exact ⟨_, rfl, HO'.out, HB'.out⟩

/-- What Gaps answers. -/
def gapsH (o : Int) (l : List Room) : List (Int × Int) := if hErr o l = 0 then freeL l o.toNat 0 else []
def GapsP (o : Int) (l : List Room) (w : World) (e : Ending) (w' : World) : Prop := ∃ v, e = .returned (.tuple #[v, .int .i64 (hErr o l)]) ∧ OwnG runC 2 29 w' w.heap.size v (gapsH o l) ∧ Below w.heap.size w w'

set_option maxRecDepth 8000 in
set_option maxHeartbeats 1000000 in
theorem gapsT_any (o : Int) (A : Option Addr) (n c : Nat) (l : List Room) (w : World) (hR : RoomsIn w A n l) :
    Calls Try.prog 10 #[.agg #[.int .i64 o, .slice A n c]] w (GapsP o l w) := by
  have b0 := (Below.refl _ w).alloc (Nat.le_refl _) (.cells #[.int .i64 o, .slice A n c] 24)
  have HC := Lib.hid (checkH_any o A n c l _ (hR.below b0))
  have HB0 := Lib.hid b0
  unfold GapsP
  rcases hErr_cases o l with ⟨h0, k, rfl, hk, hok⟩ | ⟨h0, _⟩
  · have hrt := (right_iff hk).1 hok
    have hg : gapsH (k : Int) l = freeL l k 0 := by unfold gapsH; rw [if_pos h0]; rfl
    rw [h0] at HC
    rw [hg, h0]
    have HF : Hid (∀ wx, Below w.heap.size w wx → Calls Try.prog 40 #[.slice A n c, .agg #[.int .i64 0, .int .i64 (pw k)]] wx (FreeP l k 0 wx)) := fun wx hwx =>
      freeIn_any A n c l hR.1 hrt.smallR k 0 wx hk (by have := pw_256 hk; omega) ((hR.2.1.below hwx (Nat.le_refl _)).more hwx.size)
    have HS := Lib.hid (fun wx => size_any k A n c wx hk)
    unfold FreeP at HF
    generalize freeL l k 0 = G at *
    generalize pw k = W at *
    clear hg hrt hok hR b0 h0
    go_enter Try.func10, Try.ntmps10
    go_wp2_with fail
    refine HC.out.mono ?_
    rintro e w2 ⟨rfl, hb2⟩
    obtain ⟨bx, hb⟩ := boxed_call hb2
    have c0 : w2.cell? ⟨w.heap.size, 0, none⟩ = some (.int .i64 k) := bx.cell 0
    have c1 : w2.cell? ⟨w.heap.size, 1, none⟩ = some (.slice A n c) := bx.cell 1
    have hlt := bx.lt
    have HB := Lib.hid hb
    clear hb hb2 bx HC
    go_wp2_with fail
    go_region_held3 (fun w' => w'.cell? ⟨w.heap.size, 0, none⟩ = some (.int .i64 k) ∧ w'.cell? ⟨w.heap.size, 1, none⟩ = some (.slice A n c))
      (first
        | go_keep
        | exact ⟨(hb3.cell (p := ⟨w.heap.size, 0, none⟩) hlt).trans c0, (hb3.cell (p := ⟨w.heap.size, 1, none⟩) hlt).trans c1⟩
        | exact ⟨(hb5.cell (p := ⟨w.heap.size, 0, none⟩) hlt).trans c0, (hb5.cell (p := ⟨w.heap.size, 1, none⟩) hlt).trans c1⟩)
      (first
        | (go_at_call 33; refine (HS.out _).mono ?_; rintro e w3 ⟨rfl, hb3⟩; have hb3 := below_of_drew hb3)
        | (go_at_call 40; refine (HF.out _ ?_).mono ?_; (exact HB.out.trans (hb3.mono HB.out.size)); rintro e w4 ⟨v, rfl, hO, hb4⟩; have hb5 := hb3.trans (hb4.mono hb3.size)))
    have hbe := HB.out.trans (hb5.mono HB.out.size)
    have HBE := Lib.hid hbe
    have HOE := Lib.hid (hO.less (Nat.le_trans HB.out.size hb3.size))
    clear hbe hO hb3 hb4 hb5 c0 c1
    go_wp2
    go_ret2
    exact ⟨_, rfl, HOE.out, HBE.out⟩
  · have hg : gapsH o l = [] := by unfold gapsH; rw [if_neg h0]
    rw [hg]
    clear hg hR b0
    have hne : (hErr o l != 0) = true := by simpa using h0
    generalize hErr o l = E at *
    go_enter Try.func10, Try.ntmps10
    go_wp2_with fail
    refine HC.out.mono ?_
    rintro e w2 ⟨rfl, hb2⟩
    have HB := Lib.hid (HB0.out.trans (hb2.mono HB0.out.size))
    clear hb2
    go_wp2
    go_ret2
    exact ⟨_, rfl, OwnG.nil, HB.out⟩

/-- The words of the first 'j' rooms that are not used. -/
def wasteTo (l : List Room) : Nat → Int
  | 0 => 0
  | j + 1 => wasteTo l j + ((nthG l j).2.1 - (nthG l j).2.2)
def wasteH (o : Int) (l : List Room) : Int := if hErr o l = 0 then wasteTo l l.length else 0
theorem wasteTo_le {k : Nat} {l : List Room} (h : Right k l) : ∀ j, j ≤ l.length → 0 ≤ wasteTo l j ∧ wasteTo l j ≤ j * 256
  | 0, _ => ⟨Int.le_refl _, Int.le_refl _⟩
  | j + 1, hj => by
    have := wasteTo_le h j (by omega)
    have hg := (h.good _ (List.getElem_mem (by omega : j < l.length))).pos
    have := pw_256 h.small
    rw [wasteTo, nthG_get _ _ (by omega)]
    omega

set_option maxRecDepth 8000 in
set_option maxHeartbeats 1000000 in
theorem waste_any (o : Int) (A : Option Addr) (n c : Nat) (l : List Room) (w : World) (hR : RoomsIn w A n l) :
    Calls Try.prog 11 #[.agg #[.int .i64 o, .slice A n c]] w fun e w' => e = .returned (.tuple #[.int .i64 (wasteH o l), .int .i64 (hErr o l)]) ∧ Below w.heap.size w w' := by
  have b0 := (Below.refl _ w).alloc (Nat.le_refl _) (.cells #[.int .i64 o, .slice A n c] 24)
  have HC := Lib.hid (checkH_any o A n c l _ (hR.below b0))
  have HB0 := Lib.hid b0
  rcases hErr_cases o l with ⟨h0, k, rfl, hk, hok⟩ | ⟨h0, _⟩
  · have hrt := (right_iff hk).1 hok
    have hg : wasteH (k : Int) l = wasteTo l n := by unfold wasteH; rw [if_pos h0, hR.2.1.1]
    rw [h0] at HC
    rw [hg, h0]
    have hl := hR.2.1.1
    have h256 := pw_256 hk
    have hn256 := hrt.len
    have HW : Hid (∀ j, j < n → ∃ x y z : Nat, (nthG l j).1 = x ∧ (nthG l j).2.1 = y ∧ (nthG l j).2.2 = z ∧ x ≤ 256 ∧ y ≤ 256 ∧ z ≤ y) := fun j hj => by
      rw [nthG_get _ _ (by omega)]
      have hp := (hrt.good _ (List.getElem_mem (by omega : j < l.length))).pos
      exact ⟨_, _, _, (Int.toNat_of_nonneg hp.1).symm, (Int.toNat_of_nonneg (by omega)).symm, (Int.toNat_of_nonneg (by omega)).symm, by omega, by omega, by omega⟩
    have HT := Lib.hid (wasteTo_le hrt)
    have HX := Lib.hid hR.2.1
    have hnn : n ≤ 256 := by omega
    have HL := Lib.hid hl
    clear hg hrt hok hR b0 h0 hl hn256
    go_enter Try.func11, Try.ntmps11
    go_wp2_with fail
    refine HC.out.mono ?_
    rintro e w2 ⟨rfl, hb2⟩
    obtain ⟨bx, hb⟩ := boxed_call hb2
    have c0 : w2.cell? ⟨w.heap.size, 0, none⟩ = some (.int .i64 k) := bx.cell 0
    have c1 : w2.cell? ⟨w.heap.size, 1, none⟩ = some (.slice A n c) := bx.cell 1
    have HB := Lib.hid hb
    clear hb hb2 bx HC
    go_wp2_with fail
    go_loopw [5, 16] (fun s i wr => ∃ j : Nat, j ≤ n ∧ i = .int .i64 j ∧ s = .int .i64 (wasteTo l j) ∧ Hid (Below w.heap.size w wr)) (fun _ i _ => n - (intOf i).toNat)
    case atStart => exact ⟨0, Nat.zero_le _, rfl, rfl, HB⟩
    case round =>
      obtain ⟨j, hj, rfl, rfl, HBr⟩ := hrel
      clear c0 c1
      by_cases hlt : j < n
      · obtain ⟨b, off, rfl, hbB, hc0, hc1, hc2⟩ := (HX.out.below HBr.out (Nat.le_refl _)).room hlt
        obtain ⟨x, y, z, e1, e2, e3, h1, h2, h3⟩ := HW.out j hlt
        have hT := HT.out j (by rw [HL.out]; omega)
        have HS : Hid (wasteTo l (j + 1) = wasteTo l j + ((y : Int) - z)) := by show _ = _; rw [wasteTo, e2, e3]
        rw [e1] at hc0
        rw [e2] at hc1
        rw [e3] at hc2
        clear e1 e2 e3 hbB
        generalize wasteTo l j = S at *
        have hj256 : (j : Int) * 256 ≤ 65536 := by omega
        have HBn := Lib.hid (HBr.out.alloc HBr.out.size (.cells #[.int .i64 x, .int .i64 y, .int .i64 z] 42))
        obtain ⟨hT1, hT2⟩ := hT
        have hT3 : S ≤ 65536 := by omega
        clear hT2
        go_wp2
        go_roundw
        case rel => exact ⟨j + 1, by omega, by go_num, by rw [HS.out], HBn⟩
        case measure => simp [intOf]; omega
      · obtain rfl : j = n := by omega
        go_wp2
        go_ret2
        exact ⟨rfl, HBr.out⟩
  · have hg : wasteH o l = 0 := by unfold wasteH; rw [if_neg h0]
    rw [hg]
    clear hg hR b0
    have hne : (hErr o l != 0) = true := by simpa using h0
    generalize hErr o l = E at *
    go_enter Try.func11, Try.ntmps11
    go_wp2_with fail
    refine HC.out.mono ?_
    rintro e w2 ⟨rfl, hb2⟩
    have HB := Lib.hid (HB0.out.trans (hb2.mono HB0.out.size))
    clear hb2
    go_wp2
    go_ret2
    exact ⟨rfl, HB.out⟩
end Go.Proofs.Ytdieokpfkojoiaa
