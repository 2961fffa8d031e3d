/-
  Contracts of hand.New, Open, Look, Close, Swap and Live.
-/
import Derived.Test.YtedndmhekjfpdaaHandC
import Derived.OwnWalk
namespace Go.Proofs.Ytedndmhekjfpdaa
open Go.RowKit

theorem u64H : (Try.prog.info? 24).map (fun i => (i.zero, i.size, i.bytes)) = some (some (.int .u64 0), 1, 8) := by kernel_rfl
theorem own_below {k : IntKind} {e : TypeId} {w w' : World} {base : Nat} {v : Value} {xs : List Int} (h : Own k e w base v xs) (hb : Below w.heap.size w w') : Own k e w' base v xs := by
  obtain ⟨⟨hl, h2⟩, hw⟩ := h
  refine ⟨⟨hl, h2.imp id ?_⟩, hw⟩
  rintro ⟨g, cap, cur, hv, hg, hh, r⟩
  refine ⟨g, cap, cur, hv, hg, ?_, r⟩
  rw [hb.block g ?_]; exact hh
  rcases Nat.lt_or_ge g w.heap.size with h | h
  · exact h
  · rw [Array.getElem?_eq_none h] at hh; cases hh

/-- The three cells of slot 'p' set anew. -/
def put3 (w : World) (g p : Nat) (x : Slt) : World := ((w.setCell ⟨g, p * 3, none⟩ (.int .i64 x.1)).setCell ⟨g, p * 3 + 1, none⟩ (.bool x.2.1)).setCell ⟨g, p * 3 + 2, none⟩ (.int .i64 x.2.2)
section
variable {e : TypeId} {w w' : World} {base g n c : Nat} {l : List Slt}
theorem OwnG.oneS (h : OwnG slotC 3 e w base (.slice (some ⟨g, 0, none⟩) n c) l) (j i : Nat) (a : Slt) (u : Value) (hj : j < l.length) (hi : i < 3) (he : slotC a = (slotC (nthG l j)).set i u) :
    OwnG slotC 3 e (w.setCell ⟨g, j * 3 + i, none⟩ u) base (.slice (some ⟨g, 0, none⟩) n c) (l.set j a) := by
  obtain ⟨g', cap', hv, _, _, _, _, hs⟩ := h.form slotC_len (by omega)
  injection hv with e1 e2 e3
  injection e1 with e1
  injection e1 with e1
  subst e1
  exact hs j i a u hj hi he
theorem OwnG.put3 (h : OwnG slotC 3 e w base (.slice (some ⟨g, 0, none⟩) n c) l) (p : Nat) (x : Slt) (hp : p < l.length) : OwnG slotC 3 e (put3 w g p x) base (.slice (some ⟨g, 0, none⟩) n c) (l.set p x) := by
  have s0 := h.oneS p 0 (x.1, (nthG l p).2.1, (nthG l p).2.2) (.int .i64 x.1) hp (by omega) rfl
  have s1 := s0.oneS p 1 (x.1, x.2.1, (nthG l p).2.2) (.bool x.2.1) (by simpa using hp) (by omega) (by rw [nthG_set_same _ _ _ hp]; rfl)
  rw [List.set_set] at s1
  have s2 := s1.oneS p 2 x (.int .i64 x.2.2) (by simpa using hp) (by omega) (by rw [nthG_set_same _ _ _ hp]; rfl)
  rw [List.set_set] at s2
  exact s2
theorem FullG.put3 (h : FullG slotC 3 e w base (some ⟨g, 0, none⟩) n c l) (p : Nat) (x : Slt) (hp : p < n) : FullG slotC 3 e (put3 w g p x) base (some ⟨g, 0, none⟩) n c (l.set p x) := by
  obtain ⟨h1, h2, h3, h4, sp, h5, h6⟩ := h
  refine ⟨by rw [List.length_set]; exact h1, h2, h3, h4.put3 p x (by omega), sp, by rw [List.length_append, List.length_set] at *; exact h5, ?_⟩
  have := h6.put3 p x (by rw [List.length_append]; omega)
  rwa [List.set_append_left _ _ (by omega)] at this
theorem FullG.oneS (h : FullG slotC 3 e w base (some ⟨g, 0, none⟩) n c l) (j i : Nat) (a : Slt) (u : Value) (hj : j < n) (hi : i < 3) (he : slotC a = (slotC (nthG l j)).set i u) : FullG slotC 3 e (w.setCell ⟨g, j * 3 + i, none⟩ u) base (some ⟨g, 0, none⟩) n c (l.set j a) := by
  obtain ⟨h1, h2, h3, h4, sp, h5, h6⟩ := h
  refine ⟨by rw [List.length_set]; exact h1, h2, h3, h4.oneS j i a u (by omega) hi he, sp, by rw [List.length_append, List.length_set] at *; exact h5, ?_⟩
  have := h6.oneS j i a u (by rw [List.length_append]; omega) hi (by
    have : nthG (l ++ sp) j = nthG l j := by unfold nthG; rw [List.getD_eq_getElem?_getD, List.getD_eq_getElem?_getD, List.getElem?_append_left (by omega)]
    rw [this]; exact he)
  rwa [List.set_append_left _ _ (by omega)] at this
/-- Where the row lies, and the cells of slot 'p'. -/
theorem FullG.at_ {A : Option Addr} (h : FullG slotC 3 e w base A n c l) {p : Nat} (hp : p < n) : ∃ g, A = some ⟨g, 0, none⟩ ∧ base ≤ g ∧ g < w.heap.size ∧
    (w.cell? ⟨g, p * 3, none⟩ = some (.int .i64 (nthG l p).1) ∧ w.cell? ⟨g, p * 3 + 1, none⟩ = some (.bool (nthG l p).2.1) ∧ w.cell? ⟨g, p * 3 + 2, none⟩ = some (.int .i64 (nthG l p).2.2)) ∧
    (w.frozen? ⟨g, p * 3, none⟩ = false ∧ w.frozen? ⟨g, p * 3 + 1, none⟩ = false ∧ w.frozen? ⟨g, p * 3 + 2, none⟩ = false) := by
  obtain ⟨h1, h2, h3, h4, _⟩ := h
  obtain ⟨g, cap, hv, _, hb, hlt, hc, _⟩ := h4.form slotC_len (by omega)
  injection hv with e1 e2 e3
  exact ⟨g, e1, hb, hlt, ⟨(hc p (by omega) 0 (by omega)).1, (hc p (by omega) 1 (by omega)).1, (hc p (by omega) 2 (by omega)).1⟩, (hc p (by omega) 0 (by omega)).2, (hc p (by omega) 1 (by omega)).2, (hc p (by omega) 2 (by omega)).2⟩
theorem FullG.arr {A : Option Addr} (h : FullG slotC 3 e w base A n c l) : ArrG slotC 3 w w.heap.size A n l := by
  obtain ⟨h1, _, _, h4, _⟩ := h
  obtain ⟨A', c', hv, _, ha⟩ := h4.arr slotC_len
  injection hv with e1 e2 e3
  subst e1
  rw [h1] at ha
  exact ha
theorem put3_below {B : Nat} {a : World} (h : Below B a w) (hg : B ≤ g) (p : Nat) (x : Slt) : Below B a (put3 w g p x) := below_set (below_set (below_set h hg _ _) hg _ _) hg _ _
end
theorem put3_arr {w : World} {g : Nat} {l : List Slt} {e : TypeId} {base n c : Nat} (h : FullG slotC 3 e w base (some ⟨g, 0, none⟩) n c l) {p : Nat} (x : Slt) (hp : p < n) :
    (put3 w g p x).cell? ⟨g, p * 3, none⟩ = some (.int .i64 x.1) ∧ (put3 w g p x).cell? ⟨g, p * 3 + 1, none⟩ = some (.bool x.2.1) ∧ (put3 w g p x).cell? ⟨g, p * 3 + 2, none⟩ = some (.int .i64 x.2.2) := by
  obtain ⟨g', e1, _, _, hc, _⟩ := (h.put3 p x hp).at_ hp
  injection e1 with e1
  injection e1 with e1
  subst e1
  rw [nthG_set_same _ _ _ (by rw [h.1]; exact hp)] at hc
  exact hc

/-- New's fault and answer. -/
def newE (n : Int) : Int := if n < 0 ∨ 16 < n then 4 else 0
def newR (n : Int) : List Slt := if n < 0 ∨ 16 < n then [] else List.replicate n.toNat (0, false, 0)
/-- 'make(api.Hands, n)'. -/
theorem run_make_slots {t : TypeId} (ht : Try.prog.underlying t = some (.slice 41)) (n : Nat) (hn : n ≤ 16) (w : World) :
    ∃ w', Sem.run Try.prog (Instr.makeSlice t (.int .i64 (n : Int)) (.int .i64 (n : Int))) w = .ok (.slice (some ⟨w.heap.size, 0, none⟩) n n) w' ∧ FullG slotC 3 41 w' w.heap.size (some ⟨w.heap.size, 0, none⟩) n n (List.replicate n (0, false, 0)) ∧ Below w.heap.size w w' := by
  obtain ⟨i, hi, hz, hs, hby⟩ := info_parts slotI
  have hr := run_make (P := Try.prog) w t 41 i _ ht hi hz .i64 .i64 n n (by omega) (by omega) (by rw [hby]; omega) (by omega)
  simp only [Int.toNat_natCast] at hr
  have e1 : madeCells (Value.agg #[.int .i64 0, .bool false, .int .i64 0]).cells (n * i.size) = ((List.replicate n ((0, false, 0) : Slt) ++ []).flatMap slotC).toArray := by
    rw [List.append_nil, ← zero_flat slotC_len (by omega) (z := (Value.agg #[.int .i64 0, .bool false, .int .i64 0]).cells) (0, false, 0) rfl, hs]
    rfl
  rw [e1] at hr
  exact ⟨_, hr, FullG.of slotC_len (sp := []) (by simp) (by simp) (by unfold maxLen; omega) (Nat.le_refl _) (heap_alloc_new w _), (Below.refl _ w).alloc (Nat.le_refl _) _⟩

set_option maxHeartbeats 400000 in
theorem newH_any (n : Int) (w : World) : Calls Try.prog 8 #[.int .i64 n] w fun e w' => ∃ A m c, e = .returned (.tuple #[.slice A m c, .int .i64 (newE n)]) ∧ FullG slotC 3 41 w' w.heap.size A m c (newR n) ∧ Below w.heap.size w w' := by
  by_cases h1 : n < 0
  · have c1 : (n < 0) = True := eq_true h1
    have e1 : newE n = 4 := by unfold newE; rw [if_pos (.inl h1)]
    have e2 : newR n = [] := by unfold newR; rw [if_pos (.inl h1)]
    rw [e1, e2]
    clear h1 e1 e2
    go_enter Try.func8, Try.ntmps8
    go_wp2
    go_ret2
    exact ⟨none, 0, 0, rfl, FullG.nil, Below.refl _ _⟩
  · have c1 : (n < 0) = False := eq_false h1
    by_cases h2 : 16 < n
    · have c2 : (16 < n) = True := eq_true h2
      have e1 : newE n = 4 := by unfold newE; rw [if_pos (.inr h2)]
      have e2 : newR n = [] := by unfold newR; rw [if_pos (.inr h2)]
      rw [e1, e2]
      clear h1 h2 e1 e2
      go_enter Try.func8, Try.ntmps8
      go_wp2
      go_ret2
      exact ⟨none, 0, 0, rfl, FullG.nil, Below.refl _ _⟩
    · have c2 : (16 < n) = False := eq_false h2
      have e1 : newE n = 0 := by unfold newE; rw [if_neg (by omega)]
      have e2 : newR n = List.replicate n.toNat (0, false, 0) := by unfold newR; rw [if_neg (by omega)]
      rw [e1, e2]
      obtain ⟨k, rfl⟩ : ∃ k : Nat, n = k := ⟨n.toNat, by omega⟩
      obtain ⟨w', hr, hF, hB⟩ := run_make_slots Try.underlying23 k (by omega) w
      have HF := Lib.hid hF
      have HB := Lib.hid hB
      rw [Int.toNat_natCast]
      clear hF hB e1 e2 h1 h2
      go_enter Try.func8, Try.ntmps8
      go_wp2
      go_ret2
      exact ⟨_, _, _, rfl, HF.out, HB.out⟩

def openV (l : List Slt) (a : Int) : Int := if openE l a = 0 then openN l a else 0
def openR (l : List Slt) (a : Int) : List Slt := if openE l a = 0 then openL l a else []
/-- What Open answers. -/
def Opened (l : List Slt) (a : Int) (w : World) (e : Ending) (w' : World) : Prop := ∃ A m c, e = .returned (.tuple #[.slice A m c, .int .u64 (openV l a), .int .i64 (openE l a)]) ∧ FullG slotC 3 41 w' w.heap.size A m c (openR l a) ∧ Below w.heap.size w w'

set_option maxRecDepth 8000 in
set_option maxHeartbeats 1000000 in
theorem openH_any (A : Option Addr) (n c : Nat) (l : List Slt) (a : Int) (w : World) (hn : n ≤ maxLen) (ha : ArrG slotC 3 w w.heap.size A n l) :
    Calls Try.prog 9 #[.slice A n c, .int .i64 a] w (Opened l a w) := by
  have HC := Lib.hid (handCheck_any A n c l w hn ha)
  have HW := Lib.hid (fun wx => handWord_any a wx)
  have HI := Lib.hid (fun wx hb => indexFree A n c l wx hn ((ha.below hb (Nat.le_refl _)).more (Below.size hb)))
  unfold FoundAt at HI
  unfold Opened openV openR
  by_cases h0 : handE l = 0
  · rw [h0] at HC
    have hl := ha.1
    have h16 := (handE_ok.1 h0).1
    have hok := (handE_ok.1 h0).2
    cases hin : inHand a
    · rw [open_word h0 hin, if_neg (by decide), if_neg (by decide)]
      rw [hin] at HW
      clear HI ha hl h16 hok h0 hin hn
      go_enter Try.func9, Try.ntmps9
      go_wp2_with fail
      refine HC.out.mono ?_
      rintro e w1 ⟨rfl, b1⟩
      have HB := Lib.hid b1
      clear b1
      go_wp2_with fail
      refine (HW.out _).mono ?_
      rintro e w2 ⟨rfl, rfl⟩
      go_wp2
      go_ret3
      exact ⟨_, _, _, rfl, FullG.nil, HB.out⟩
    · rw [hin] at HW
      rcases open_ways h0 hin with ⟨p, hp, hf, hbf, hE, hI⟩ | ⟨hno, hE⟩
      · rw [hE, if_pos rfl, if_pos rfl]
        have hsl := slotE_ok.1 (hok p hp)
        have hfr := freeN_iff.1 hf
        have HIp : Hid (∀ wx, Below w.heap.size w wx → Calls Try.prog 33 #[.slice A n c, .func (.func 34) #[] #[]] wx fun e w' => e = .returned (.int .i64 p) ∧ Below wx.heap.size wx w') := fun wx hb => by
          refine (HI.out wx hb).mono ?_
          rintro e w' ⟨r, rfl, hb', h⟩
          refine ⟨?_, hb'⟩
          rcases h with ⟨k, rfl, hk, hfk, hbk⟩ | ⟨rfl, hno⟩
          · have : k = p := by
              rcases Nat.lt_trichotomy k p with h | h | h
              · rw [hbf k h] at hfk; cases hfk
              · exact h
              · rw [hbk p h] at hf; cases hf
            rw [this]
          · rw [hno p (by omega)] at hf; cases hf
        have HK := Lib.hid (fun wx hb => cloneS_any A n c l wx (by omega) ((ha.below hb (Nat.le_refl _)).more (Below.size hb)))
        unfold ClonedS at HK
        have HA := Lib.hid ha
        have hpn : p < n := by omega
        have hpn' : (p : Int) < (n : Int) := by omega
        have HX : Hid (openX l a = ((nthG l p).1 + 1, true, a)) := by show _ = _; unfold openX; rw [hI]
        have HOL : Hid (openL l a = l.set p ((nthG l p).1 + 1, true, a)) := by show _ = _; unfold openL; rw [HX.out, hI]
        have HON : Hid (openN l a = nameN p ((nthG l p).1 + 1, true, a)) := by show _ = _; unfold openN; rw [HX.out, hI]
        rw [HOL.out, HON.out]
        rw [hl] at HK
        have hg1 := hsl.1
        have hg2 := hfr.2
        have HG := Lib.hid (show ∃ G, (nthG l p).1 = G from ⟨_, rfl⟩)
        clear HI ha hok h0 hin hn hf hbf hE hI hsl hfr HX HOL HON hp
        obtain ⟨G, hG⟩ := HG.out
        rw [hG] at hg1 hg2 ⊢
        have HGG := Lib.hid hG
        clear hG HG
        have HNm := Lib.hid (fun wx => nameOf_any p (G + 1) true a wx (by omega) (by omega) (by omega))
        go_enter Try.func9, Try.ntmps9
        go_wp2_with fail
        refine HC.out.mono ?_
        rintro e w1 ⟨rfl, b1⟩
        have HB := Lib.hid b1
        clear b1
        go_wp2_with fail
        refine (HW.out _).mono ?_
        rintro e w2 ⟨rfl, rfl⟩
        go_wp2_with fail
        refine (HIp.out _ HB.out).mono ?_
        rintro e w2 ⟨rfl, b2⟩
        have HB2 := Lib.hid (HB.out.trans (b2.mono HB.out.size))
        clear b2
        go_wp2_with fail
        refine (HK.out _ HB2.out).mono ?_
        rintro e w3 ⟨A3, c3, rfl, hF, b3⟩
        have hB3 := HB2.out.trans (b3.mono HB2.out.size)
        have hF3 := hF.less HB2.out.size
        obtain ⟨b, off, rfl, hbB, hc0, _, _⟩ := (HA.out.below hB3 (Nat.le_refl _)).slot hpn
        rw [HGG.out] at hc0
        obtain ⟨g, rfl, hbg, hglt, ⟨d0, d1, d2⟩, f0, f1, f2⟩ := hF3.at_ hpn
        have HF5 := Lib.hid (hF3.put3 p (G + 1, true, a) hpn)
        have HB5 := Lib.hid (put3_below (g := g) hB3 hbg p (G + 1, true, a))
        obtain ⟨q0, q1, q2⟩ := put3_arr hF3 (G + 1, true, a) hpn
        have HQ0 := Lib.hid q0
        have HQ1 := Lib.hid q1
        have HQ2 := Lib.hid q2
        unfold put3 at q0 q1 q2
        simp only at q0 q1 q2
        have HNp := Lib.hid (HNm.out (put3 w3 g p (G + 1, true, a)))
        unfold put3 at HNp
        simp only at HNp
        clear hF hF3 b3 hB3
        go_wp2_with fail
        refine HNp.out.mono ?_
        rintro e w6 ⟨rfl, b6⟩
        have HB6 := Lib.hid (HB5.out.trans (Below.mono b6 HB5.out.size))
        have HF6 := Lib.hid (HF5.out.below b6)
        clear b6
        go_wp2
        go_ret3
        exact ⟨_, _, _, rfl, HF6.out, HB6.out⟩
      · rw [hE, if_neg (by decide), if_neg (by decide)]
        have HIp : Hid (∀ wx, Below w.heap.size w wx → Calls Try.prog 33 #[.slice A n c, .func (.func 34) #[] #[]] wx fun e w' => e = .returned (.int .i64 (-1)) ∧ Below wx.heap.size wx w') := fun wx hb => by
          refine (HI.out wx hb).mono ?_
          rintro e w' ⟨r, rfl, hb', h⟩
          refine ⟨?_, hb'⟩
          rcases h with ⟨k, rfl, hk, hfk, hbk⟩ | ⟨rfl, _⟩
          · rw [hno k (by omega)] at hfk; cases hfk
          · rfl
        clear HI ha hl h16 hok h0 hin hn hno hE
        go_enter Try.func9, Try.ntmps9
        go_wp2_with fail
        refine HC.out.mono ?_
        rintro e w1 ⟨rfl, b1⟩
        have HB := Lib.hid b1
        clear b1
        go_wp2_with fail
        refine (HW.out _).mono ?_
        rintro e w2 ⟨rfl, rfl⟩
        go_wp2_with fail
        refine (HIp.out _ HB.out).mono ?_
        rintro e w2 ⟨rfl, b2⟩
        have HB2 := Lib.hid (HB.out.trans (b2.mono HB.out.size))
        clear b2
        go_wp2
        go_ret3
        exact ⟨_, _, _, rfl, FullG.nil, HB2.out⟩
  · rw [open_bad h0, if_neg h0, if_neg h0]
    obtain ⟨E, hE⟩ : ∃ E, handE l = E := ⟨_, rfl⟩
    rw [hE] at HC h0 ⊢
    have c1 : (E != 0) = true := by simpa using h0
    clear ha hn h0 hE HI
    go_enter Try.func9, Try.ntmps9
    go_wp2_with fail
    refine HC.out.mono ?_
    rintro e w1 ⟨rfl, b1⟩
    have HB := Lib.hid b1
    clear b1
    go_wp2
    go_ret3
    exact ⟨_, _, _, rfl, FullG.nil, HB.out⟩
end Go.Proofs.Ytedndmhekjfpdaa
