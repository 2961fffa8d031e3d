/-
  Contracts of hand.Look, Close, Swap and Live.
-/
import Derived.Test.YtedndmhekjfpdaaHandD
namespace Go.Proofs.Ytedndmhekjfpdaa
open Go.RowKit

set_option maxRecDepth 8000 in
set_option maxHeartbeats 1000000 in
theorem lookH_any (A : Option Addr) (n c : Nat) (l : List Slt) (N : Int) (w : World) (hn : n ≤ maxLen) (ha : ArrG slotC 3 w w.heap.size A n l) :
    Calls Try.prog 10 #[.slice A n c, .int .u64 N] w fun e w' => e = .returned (.tuple #[.int .i64 (lookV l N), .int .i64 (findE l N)]) ∧ Below w.heap.size w w' := by
  have HFi := Lib.hid (findH_any A n c l N w hn ha)
  unfold lookV
  by_cases h0 : findE l N = 0
  · obtain ⟨_, hp, _, _⟩ := find_ok h0
    rw [if_pos h0]
    rw [if_pos h0] at HFi
    rw [h0] at HFi ⊢
    have hl := ha.1
    have HA := Lib.hid ha
    obtain ⟨p, hpp⟩ : ∃ p, findI l N = p := ⟨_, rfl⟩
    rw [hpp] at hp HFi ⊢
    have hpn : p < n := by omega
    have hpn' : (p : Int) < (n : Int) := by omega
    obtain ⟨Z, hZ⟩ : ∃ Z, (nthG l p).2.2 = Z := ⟨_, rfl⟩
    rw [hZ]
    have HZ := Lib.hid hZ
    clear ha hn h0 hpp hp hl hZ
    go_enter Try.func10, Try.ntmps10
    go_wp2_with fail
    refine HFi.out.mono ?_
    rintro e w1 ⟨rfl, b1⟩
    have HB := Lib.hid b1
    obtain ⟨b, off, rfl, hbB, _, _, hc2⟩ := (HA.out.below b1 (Nat.le_refl _)).slot hpn
    rw [HZ.out] at hc2
    clear b1
    go_wp2
    go_ret2
    exact ⟨rfl, HB.out⟩
  · rw [if_neg h0]
    rw [if_neg h0] at HFi
    obtain ⟨E, hE⟩ : ∃ E, findE l N = E := ⟨_, rfl⟩
    rw [hE] at HFi h0 ⊢
    have c1 : (E != 0) = true := by simpa using h0
    clear ha hn h0 hE
    go_enter Try.func10, Try.ntmps10
    go_wp2_with fail
    refine HFi.out.mono ?_
    rintro e w1 ⟨rfl, b1⟩
    have HB := Lib.hid b1
    clear b1
    go_wp2
    go_ret2
    exact ⟨rfl, HB.out⟩

def closeR (l : List Slt) (N : Int) : List Slt := if findE l N = 0 then closeL l N else []
/-- Handles of the call's own, and an error. -/
def GaveH (E : Int) (r : List Slt) (w : World) (e : Ending) (w' : World) : Prop := ∃ A m c, e = .returned (.tuple #[.slice A m c, .int .i64 E]) ∧ FullG slotC 3 41 w' w.heap.size A m c r ∧ Below w.heap.size w w'

set_option maxRecDepth 8000 in
set_option maxHeartbeats 1000000 in
theorem closeH_any (A : Option Addr) (n c : Nat) (l : List Slt) (N : Int) (w : World) (hn : n ≤ maxLen) (ha : ArrG slotC 3 w w.heap.size A n l) :
    Calls Try.prog 11 #[.slice A n c, .int .u64 N] w (GaveH (findE l N) (closeR l N) w) := by
  have HFi := Lib.hid (findH_any A n c l N w hn ha)
  unfold GaveH closeR
  by_cases h0 : findE l N = 0
  · obtain ⟨hh, hp, _, _⟩ := find_ok h0
    have h16 := (handE_ok.1 hh).1
    rw [if_pos h0]
    rw [if_pos h0] at HFi
    rw [h0] at HFi ⊢
    unfold closeL
    have hl := ha.1
    have HA := Lib.hid ha
    obtain ⟨p, hpp⟩ : ∃ p, findI l N = p := ⟨_, rfl⟩
    rw [hpp] at hp HFi ⊢
    have hpn : p < n := by omega
    have hpn' : (p : Int) < (n : Int) := by omega
    have HK := Lib.hid (fun wx hb => cloneS_any A n c l wx (by omega) ((ha.below hb (Nat.le_refl _)).more (Below.size hb)))
    unfold ClonedS at HK
    rw [hl] at HK
    obtain ⟨G, hG⟩ : ∃ G, (nthG l p).1 = G := ⟨_, rfl⟩
    rw [hG]
    have HGG := Lib.hid hG
    clear ha hn h0 hpp hp hl hG hh h16
    go_enter Try.func11, Try.ntmps11
    go_wp2_with fail
    refine HFi.out.mono ?_
    rintro e w1 ⟨rfl, b1⟩
    have HB := Lib.hid b1
    clear b1
    go_wp2_with fail
    refine (HK.out _ HB.out).mono ?_
    rintro e w3 ⟨A3, c3, rfl, hF, b3⟩
    have hB3 := HB.out.trans (b3.mono HB.out.size)
    have hF3 := hF.less HB.out.size
    obtain ⟨b, off, rfl, hbB, hc0, _, _⟩ := (HA.out.below hB3 (Nat.le_refl _)).slot hpn
    rw [HGG.out] at hc0
    obtain ⟨g, rfl, hbg, hglt, ⟨d0, d1, d2⟩, f0, f1, f2⟩ := hF3.at_ hpn
    have HF5 := Lib.hid (hF3.put3 p (G, false, 0) hpn)
    have HB5 := Lib.hid (put3_below (g := g) hB3 hbg p (G, false, 0))
    clear hF hF3 b3 hB3
    go_wp2
    go_ret2
    exact ⟨_, _, _, rfl, HF5.out, HB5.out⟩
  · rw [if_neg h0]
    rw [if_neg h0] at HFi
    obtain ⟨E, hE⟩ : ∃ E, findE l N = E := ⟨_, rfl⟩
    rw [hE] at HFi h0 ⊢
    have c1 : (E != 0) = true := by simpa using h0
    clear ha hn h0 hE
    go_enter Try.func11, Try.ntmps11
    go_wp2_with fail
    refine HFi.out.mono ?_
    rintro e w1 ⟨rfl, b1⟩
    have HB := Lib.hid b1
    clear b1
    go_wp2
    go_ret2
    exact ⟨_, _, _, rfl, FullG.nil, HB.out⟩

def swapR (l : List Slt) (f : List Int) : List Slt := if swapHE l f = 0 then swapHL l f else []
/-- An open slot of valid handles, and a table: the word is in it. -/
theorem swap_word {l : List Slt} {f : List Int} {k : Nat} (h : handE l = 0) (hk : k < l.length) (hf : f.length = 256) : 0 ≤ (nthG l k).2.2 ∧ (nthG l k).2.2.toNat < f.length := by
  have := slotE_ok.1 ((handE_ok.1 h).2 k hk)
  omega

set_option maxRecDepth 8000 in
set_option maxHeartbeats 1000000 in
theorem swapH_any (A A2 : Option Addr) (n c n2 c2 : Nat) (l : List Slt) (f : List Int) (w : World) (hn : n ≤ maxLen) (hn2 : n2 ≤ maxLen) (ha : ArrG slotC 3 w w.heap.size A n l) (hf : Arr .i64 w w.heap.size A2 n2 f) :
    Calls Try.prog 12 #[.slice A n c, .slice A2 n2 c2] w (GaveH (swapHE l f) (swapR l f) w) := by
  have HC := Lib.hid (handCheck_any A n c l w hn ha)
  have hl := ha.1
  have hl2 := hf.1
  unfold GaveH swapR swapHE
  rw [hl2]
  by_cases h0 : handE l = 0
  · rw [if_pos h0]
    rw [h0] at HC
    by_cases h1 : n2 = 256
    · rw [if_pos h1]
      have HW := Lib.hid (fun wx (hb : Below w.heap.size w wx) => allWords_any A2 n2 c2 w.heap.size f wx hn2 (hf.below hb (Nat.le_refl _)))
      have c1 : ((n2 : Int) != 256) = false := by simp [h1]
      cases h2 : wordsIn f
      · rw [h2] at HW
        rw [if_neg (by decide), if_neg (by decide)]
        clear ha hf hn h0 h1 h2 hl hl2 hn2
        go_enter Try.func12, Try.ntmps12
        go_wp2_with fail
        refine HC.out.mono ?_
        rintro e w1 ⟨rfl, b1⟩
        have HB := Lib.hid b1
        clear b1
        go_wp2_with fail
        refine (HW.out _ HB.out).mono ?_
        rintro e w2 ⟨rfl, rfl⟩
        go_wp2
        go_ret2
        exact ⟨_, _, _, rfl, FullG.nil, HB.out⟩
      · rw [h2] at HW
        rw [if_pos rfl, if_pos rfl]
        have h16 := (handE_ok.1 h0).1
        have HK := Lib.hid (fun wx hb => cloneS_any A n c l wx (by omega) ((ha.below hb (Nat.le_refl _)).more (Below.size hb)))
        unfold ClonedS at HK
        rw [hl] at HK
        have HL := Lib.hid hl
        have HSW : Hid (∀ k, k < n → 0 ≤ (nthG l k).2.2 ∧ (nthG l k).2.2.toNat < n2) := fun k hk => by
          have := swap_word h0 (by omega) (hl2.trans h1) (k := k)
          rw [hl2] at this
          exact this
        have HFA := Lib.hid hf
        have hn16 : n ≤ 16 := by omega
        clear ha hf hn h0 h1 h2 hl hl2 hn2 h16
        go_enter Try.func12, Try.ntmps12
        go_wp2_with fail
        refine HC.out.mono ?_
        rintro e w1 ⟨rfl, b1⟩
        have HB := Lib.hid b1
        clear b1
        go_wp2_with fail
        refine (HW.out _ HB.out).mono ?_
        rintro e w2 ⟨rfl, rfl⟩
        go_wp2_with fail
        refine (HK.out _ HB.out).mono ?_
        rintro e w3 ⟨A3, c3, rfl, hF, b3⟩
        have HB3 := Lib.hid (HB.out.trans (b3.mono HB.out.size))
        have HF3 := Lib.hid (hF.less HB.out.size)
        clear hF b3 HC HW HK
        go_wp2_with fail
        go_loopw [25] (fun i wr => ∃ k : Nat, k ≤ n ∧ i = .int .i64 k ∧ Hid (FullG slotC 3 41 wr w.heap.size A3 n c3 (swapTo l f k)) ∧ Hid (Below w.heap.size w wr)) (fun i _ => n - (intOf i).toNat)
        case atStart => exact ⟨0, Nat.zero_le _, rfl, by rw [swapTo_zero]; exact HF3, HB3⟩
        case round =>
          obtain ⟨k, hk, rfl, HF, HBr⟩ := hrel
          clear HF3 HB3
          by_cases hlt : k < n
          · obtain ⟨g, rfl, hbg, hglt, ⟨d0, d1, d2⟩, f0, f1, f2⟩ := HF.out.at_ hlt
            rw [swapTo_at (by rw [HL.out]; exact hlt)] at d0 d1 d2
            obtain ⟨hw0, hw1⟩ := HSW.out k hlt
            have HNx : Hid (swapTo l f (k + 1) = (swapTo l f k).set k (swapX f (nthG l k))) := swapTo_next (by rw [HL.out]; exact hlt)
            have HAt : Hid (nthG (swapTo l f k) k = nthG l k) := swapTo_at (by rw [HL.out]; exact hlt)
            have HOff : Hid ((nthG l k).2.1 = false → swapTo l f (k + 1) = swapTo l f k) := fun h => swapTo_off (by rw [HL.out]; exact hlt) h
            obtain ⟨X, O, Z, hX⟩ : ∃ X O Z, nthG l k = (X, O, Z) := ⟨_, _, _, rfl⟩
            rw [hX] at d0 d1 d2 hw0 hw1 HNx HAt HOff
            simp only at d0 d1 d2 hw0 hw1 HOff
            have bl : Below wr.heap.size wr (wr.alloc (.cells #[.int .i64 X, .bool O, .int .i64 Z] 41)) := (Below.refl _ _).alloc (Nat.le_refl _) _
            have bx := Box.new wr 41 #[.int .i64 X, .bool O, .int .i64 Z]
            have y1 : (wr.alloc (.cells #[.int .i64 X, .bool O, .int .i64 Z] 41)).cell? ⟨wr.heap.size, 1, none⟩ = some (.bool O) := bx.cell 1
            have y2 : (wr.alloc (.cells #[.int .i64 X, .bool O, .int .i64 Z] 41)).cell? ⟨wr.heap.size, 2, none⟩ = some (.int .i64 Z) := bx.cell 2
            have HBw := Lib.hid (HBr.out.alloc HBr.out.size (.cells #[.int .i64 X, .bool O, .int .i64 Z] 41))
            have HFw := Lib.hid (HF.out.below bl)
            cases O
            · have HN := HFw.out
              rw [← HOff.out rfl] at HN
              have HN := Lib.hid HN
              clear HOff HNx HAt bl bx hX HFw
              go_wp2
              go_roundw
              case rel => exact ⟨k + 1, by omega, by go_num, HN, HBw⟩
              case measure => simp [intOf]; omega
            · obtain ⟨z, rfl⟩ : ∃ z : Nat, Z = z := ⟨Z.toNat, by omega⟩
              rw [Int.toNat_natCast] at hw1
              obtain ⟨b2, off2, rfl, hb2, hcs⟩ := HFA.out.2.2 (by omega)
              have t0 : (wr.alloc (.cells #[.int .i64 X, .bool true, .int .i64 z] 41)).cell? ⟨b2, off2 + z, none⟩ = some (.int .i64 (nth f z)) := (HBw.out.cell (p := ⟨b2, off2 + z, none⟩) hb2).trans (hcs z hw1)
              have t1 : (wr.alloc (.cells #[.int .i64 X, .bool true, .int .i64 z] 41)).cell? ⟨g, k * 3 + 2, none⟩ = some (.int .i64 z) := (bl.cell (p := ⟨g, k * 3 + 2, none⟩) hglt).trans d2
              have t2 : (wr.alloc (.cells #[.int .i64 X, .bool true, .int .i64 z] 41)).frozen? ⟨g, k * 3 + 2, none⟩ = false := by
                obtain ⟨g', e1, _, _, _, _, _, h⟩ := HFw.out.at_ hlt
                injection e1 with e1
                injection e1 with e1
                subst e1
                exact h
              have hN := HF.out.oneS k 2 (swapX f (X, true, (z : Int))) (.int .i64 (nth f z)) hlt (by omega) (by rw [HAt.out]; simp [swapX, slotC])
              rw [← HNx.out] at hN
              have hBn := below_set HBr.out hbg (k * 3 + 2) (.int .i64 (nth f z))
              have HN := Lib.hid (hN.below ((Below.refl _ _).alloc (Nat.le_refl _) (.cells #[.int .i64 X, .bool true, .int .i64 z] 41)))
              have HBn := Lib.hid (hBn.alloc hBn.size (.cells #[.int .i64 X, .bool true, .int .i64 z] 41))
              generalize nth f z = V at *
              clear HOff HNx HAt bl bx hX HFw hcs hN hBn
              have hz1 : (z : Int) < (n2 : Int) := by omega
              go_wp2
              go_roundw
              case rel => exact ⟨k + 1, by omega, by go_num, HN, HBn⟩
              case measure => simp [intOf]; omega
          · obtain rfl : k = n := by omega
            have HN := HF.out
            have hls := HL.out
            rw [← hls, swapTo_all, hls] at HN
            have HN := Lib.hid HN
            clear hls
            go_wp2
            go_ret2
            exact ⟨_, _, _, rfl, HN.out, HBr.out⟩
    · rw [if_neg h1, if_neg (by decide)]
      have c1 : ((n2 : Int) != 256) = true := by simp; omega
      clear ha hf hn h0 h1 hl hl2 hn2
      go_enter Try.func12, Try.ntmps12
      go_wp2_with fail
      refine HC.out.mono ?_
      rintro e w1 ⟨rfl, b1⟩
      have HB := Lib.hid b1
      clear b1
      go_wp2
      go_ret2
      exact ⟨_, _, _, rfl, FullG.nil, HB.out⟩
  · rw [if_neg h0, if_neg h0]
    obtain ⟨E, hE⟩ : ∃ E, handE l = E := ⟨_, rfl⟩
    rw [hE] at HC h0 ⊢
    have c1 : (E != 0) = true := by simpa using h0
    clear ha hf hn h0 hE hl hl2 hn2
    go_enter Try.func12, Try.ntmps12
    go_wp2_with fail
    refine HC.out.mono ?_
    rintro e w1 ⟨rfl, b1⟩
    have HB := Lib.hid b1
    clear b1
    go_wp2
    go_ret2
    exact ⟨_, _, _, rfl, FullG.nil, HB.out⟩

/-- What Live answers. -/
def LiveP (l : List Slt) (w : World) (e : Ending) (w' : World) : Prop := ∃ A c, e = .returned (.tuple #[.slice A (liveN l).length c, .int .i64 (handE l)]) ∧ Own .u64 24 w' w.heap.size (.slice A (liveN l).length c) (liveN l) ∧ Below w.heap.size w w'
theorem name_wf {i : Nat} {x : Slt} (hi : i ≤ 16) (h : slotE x = 0) : (Lit.int .u64 (nameN i x)).wf = true := by
  have := slotE_ok.1 h
  rw [wf_u64]
  unfold nameN
  omega

set_option maxRecDepth 8000 in
set_option maxHeartbeats 1000000 in
theorem liveH_any (A : Option Addr) (n c : Nat) (l : List Slt) (w : World) (hn : n ≤ maxLen) (ha : ArrG slotC 3 w w.heap.size A n l) :
    Calls Try.prog 13 #[.slice A n c] w (LiveP l w) := by
  have HC := Lib.hid (handCheck_any A n c l w hn ha)
  have hl := ha.1
  unfold LiveP liveN
  by_cases h0 : handE l = 0
  · rw [if_pos h0]
    rw [h0] at HC ⊢
    have h16 := (handE_ok.1 h0).1
    have hok := (handE_ok.1 h0).2
    rw [hl] at hok
    have HOK := Lib.hid hok
    have HA := Lib.hid ha
    have HL := Lib.hid hl
    have hn16 : n ≤ 16 := by omega
    clear ha hn h0 hl h16 hok
    go_enter Try.func13, Try.ntmps13
    go_wp2_with fail
    refine HC.out.mono ?_
    rintro e w1 ⟨rfl, b1⟩
    have HB0 := Lib.hid b1
    clear b1 HC
    go_wp2_with fail
    go_loopw [5, 15] (fun v i wr => ∃ k : Nat, k ≤ n ∧ i = .int .i64 k ∧ Hid (Own .u64 24 wr w.heap.size v (liveUp l k)) ∧ Hid (Below w.heap.size w wr)) (fun _ i _ => n - (intOf i).toNat)
    case atStart => exact ⟨0, Nat.zero_le _, rfl, Own.nil, HB0⟩
    case round =>
      obtain ⟨k, hk, rfl, HO, HB⟩ := hrel
      clear HB0
      by_cases hlt : k < n
      · obtain ⟨b, off, rfl, hbB, hc0, hc1, hc2⟩ := (HA.out.below HB.out (Nat.le_refl _)).slot hlt
        have hs := HOK.out k hlt
        have HOn : Hid ((nthG l k).2.1 = true → liveUp l (k + 1) = liveUp l k ++ [nameN k (nthG l k)]) := fun h => liveUp_on h
        have HOff : Hid ((nthG l k).2.1 = false → liveUp l (k + 1) = liveUp l k) := fun h => liveUp_off h
        have hlen := liveUp_len (l := l) k
        obtain ⟨X, O, Z, hX⟩ : ∃ X O Z, nthG l k = (X, O, Z) := ⟨_, _, _, rfl⟩
        rw [hX] at hc0 hc1 hc2 hs HOn HOff
        simp only at hc0 hc1 hc2 HOn HOff
        have hwf := name_wf (i := k) (by omega) hs
        have hsl := slotE_ok.1 hs
        simp only at hsl
        have bl : Below wr.heap.size wr (wr.alloc (.cells #[.int .i64 X, .bool O, .int .i64 Z] 41)) := (Below.refl _ _).alloc (Nat.le_refl _) _
        have bx := Box.new wr 41 #[.int .i64 X, .bool O, .int .i64 Z]
        have y0 : (wr.alloc (.cells #[.int .i64 X, .bool O, .int .i64 Z] 41)).cell? ⟨wr.heap.size, 0, none⟩ = some (.int .i64 X) := bx.cell 0
        have y1 : (wr.alloc (.cells #[.int .i64 X, .bool O, .int .i64 Z] 41)).cell? ⟨wr.heap.size, 1, none⟩ = some (.bool O) := bx.cell 1
        have y2 : (wr.alloc (.cells #[.int .i64 X, .bool O, .int .i64 Z] 41)).cell? ⟨wr.heap.size, 2, none⟩ = some (.int .i64 Z) := bx.cell 2
        have HBw := Lib.hid (HB.out.alloc HB.out.size (.cells #[.int .i64 X, .bool O, .int .i64 Z] 41))
        have HOw := Lib.hid (own_below HO.out bl)
        cases O
        · have HN := HOw.out
          rw [← HOff.out rfl] at HN
          have HN := Lib.hid HN
          clear HOn HOff hs hX hwf hsl bl bx HO HOw hlen
          go_wp2
          go_roundw
          case rel => exact ⟨k + 1, by omega, by go_num, HN, HBw⟩
          case measure => simp [intOf]; omega
        · have HNm := Lib.hid (nameOf_any k X true Z (wr.alloc (.cells #[.int .i64 X, .bool true, .int .i64 Z] 41)) (by omega) hsl.1 hsl.2.1)
          have HE := Lib.hid (HOn.out rfl)
          have HWF := Lib.hid hwf
          have HLN := Lib.hid hlen
          generalize nameN k (X, true, Z) = M at *
          clear HOn HOff hs hX hwf hsl bl bx HO hlen
          go_wp2_with fail
          refine HNm.out.mono ?_
          rintro e w2 ⟨rfl, b2⟩
          have hB2 := HBw.out.trans (b2.mono HBw.out.size)
          obtain ⟨v', w4, hrun, hO', hB'⟩ := (own_below HOw.out b2).push (P := Try.prog) (t := 35) (ty := 35) Try.underlying35 u64H (by omega) (x := M) HWF.out (by have := HLN.out; omega) hB2.size
          rw [← HE.out] at hO'
          have HR := Lib.hid hrun
          have HO' := Lib.hid hO'
          have HB' := Lib.hid (hB2.trans hB')
          clear hrun hO' hB' hB2 b2
          go_wp2_with (at_builtin; refine wpList_append_run rfl (.tmp 22) (.tmp 26) 35 rfl rfl rfl HR.out ?_)
          go_roundw
          case rel => exact ⟨k + 1, by omega, by go_num, HO', HB'⟩
          case measure => simp [intOf]; omega
      · obtain rfl : k = n := by omega
        have hO := HO.out
        rw [← HL.out] at hO
        obtain ⟨A', c', rfl, _, _⟩ := hO.arr
        have HO' := Lib.hid hO
        clear hO HO
        go_wp2
        go_ret2
        exact ⟨_, _, rfl, HO'.out, HB.out⟩
  · rw [if_neg h0]
    obtain ⟨E, hE⟩ : ∃ E, handE l = E := ⟨_, rfl⟩
    rw [hE] at HC h0 ⊢
    have c1 : (E != 0) = true := by simpa using h0
    clear ha hn h0 hE hl
    go_enter Try.func13, Try.ntmps13
    go_wp2_with fail
    refine HC.out.mono ?_
    rintro e w1 ⟨rfl, b1⟩
    have HB := Lib.hid b1
    clear b1
    go_wp2
    go_ret2
    exact ⟨_, _, rfl, Own.nil, HB.out⟩
end Go.Proofs.Ytedndmhekjfpdaa
