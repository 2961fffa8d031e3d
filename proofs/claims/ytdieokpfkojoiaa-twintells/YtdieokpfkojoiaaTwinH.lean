/-
  Contract of twin.Take.
-/
import Derived.Test.YtdieokpfkojoiaaTwinG
import Derived.Test.YtdieokpfkojoiaaFit
namespace Go.Proofs.Ytdieokpfkojoiaa
open Go.RowKit

def takeE (o : Int) (l : List Room) (n : Int) : Int := if hErr o l = 0 then (if n < 1 ∨ (pw o.toNat : Int) < n then 4 else chooseE less (freeL l o.toNat 0) n) else hErr o l
def takenR (k : Nat) (l : List Room) (n : Int) : Room := takeR l k n (pickTo less (freeL l k 0) n (freeL l k 0).length).toNat
def takeO (o : Int) (l : List Room) (n : Int) : Int := if takeE o l n = 0 then o else 0
def takeA (o : Int) (l : List Room) (n : Int) : Int := if takeE o l n = 0 then (takenR o.toNat l n).1 else 0
def takeB (o : Int) (l : List Room) (n : Int) : Int := if takeE o l n = 0 then (takenR o.toNat l n).2.1 else 0
def takeLH (o : Int) (l : List Room) (n : Int) : List Room := if takeE o l n = 0 then insL (takenR o.toNat l n) l else []
def TakePH (o : Int) (l : List Room) (n : Int) (w : World) (e : Ending) (w' : World) : Prop := ∃ v, e = .returned (.tuple #[.agg #[.int .i64 (takeO o l n), v], .agg #[.int .i64 (takeA o l n), .int .i64 (takeB o l n)], .int .i64 (takeE o l n)]) ∧ OwnG roomC 3 42 w' w.heap.size v (takeLH o l n) ∧ Below w.heap.size w w'
theorem take_none {o : Int} {l : List Room} {n : Int} (h : takeE o l n ≠ 0) : takeO o l n = 0 ∧ takeA o l n = 0 ∧ takeB o l n = 0 ∧ takeLH o l n = [] := by
  unfold takeO takeA takeB takeLH
  rw [if_neg h, if_neg h, if_neg h, if_neg h]
  exact ⟨rfl, rfl, rfl, rfl⟩
theorem take_some {k : Nat} {l : List Room} {n : Int} (h : takeE k l n = 0) : takeO k l n = k ∧ takeA k l n = (takenR k l n).1 ∧ takeB k l n = (takenR k l n).2.1 ∧ takeLH k l n = insL (takenR k l n) l := by
  unfold takeO takeA takeB takeLH
  rw [if_pos h, if_pos h, if_pos h, if_pos h]
  exact ⟨rfl, rfl, rfl, rfl⟩
theorem takeE_ok {k : Nat} {l : List Room} {n : Int} (h0 : hErr k l = 0) : takeE k l n = if n < 1 ∨ (pw k : Int) < n then 4 else chooseE less (freeL l k 0) n := by
  unfold takeE; rw [if_pos h0]; rfl
theorem log2_pw (i : Nat) : Nat.log2 (pw i) = i := Nat.log2_two_pow
/-- What is taken, where something is. -/
theorem taken_facts {k : Nat} {l : List Room} {n : Int} {p : Nat} (hp : pickTo less (freeL l k 0) n (freeL l k 0).length = p) : p < (freeL l k 0).length ∧ ∃ b i : Nat, nthG (freeL l k 0) p = ((b : Int), ((pw i : Nat) : Int)) ∧ Free l k 0 ((b : Int), ((pw i : Nat) : Int)) b i ∧ n ≤ pw i ∧ takenR k l n = ((b : Int), ((pw (halveL n i) : Nat) : Int), n) := by
  have hr := pickTo_range (bt := less) (l := freeL l k 0) (n := n) (freeL l k 0).length
  have hlt : p < (freeL l k 0).length := by omega
  have hf := pickTo_fits _ p hp
  obtain ⟨b, i, f⟩ := mem_freeL (l := l) (p := nthG (freeL l k 0) p) (i := k) (a := 0) (by rw [nthG_get _ _ hlt]; exact List.getElem_mem hlt)
  have e : nthG (freeL l k 0) p = ((b : Int), ((pw i : Nat) : Int)) := Prod.ext f.at_ f.long
  rw [e] at f hf
  refine ⟨hlt, b, i, e, f, hf, ?_⟩
  unfold takenR takeR
  rw [hp, Int.toNat_natCast, e, Int.toNat_natCast, log2_pw]

theorem takeTail (w W : World) (hW : Below w.heap.size w W) (h4 : Box W (w.heap.size + 1) 24 #[.int .i64 0, .slice none 0 0]) (h5 : Box W (w.heap.size + 1 + 1) 29 #[.int .i64 0, .int .i64 0]) (o : Int) (A : Option Addr) (N c : Nat) (a b : Int) :
    Box ((((W.setCell ⟨w.heap.size + 1, 0, none⟩ (.int .i64 o)).setCell ⟨w.heap.size + 1, 1, none⟩ (.slice A N c)).setCell ⟨w.heap.size + 1 + 1, 0, none⟩ (.int .i64 a)).setCell ⟨w.heap.size + 1 + 1, 1, none⟩ (.int .i64 b)) (w.heap.size + 1) 24 #[.int .i64 o, .slice A N c] ∧
    Box ((((W.setCell ⟨w.heap.size + 1, 0, none⟩ (.int .i64 o)).setCell ⟨w.heap.size + 1, 1, none⟩ (.slice A N c)).setCell ⟨w.heap.size + 1 + 1, 0, none⟩ (.int .i64 a)).setCell ⟨w.heap.size + 1 + 1, 1, none⟩ (.int .i64 b)) (w.heap.size + 1 + 1) 29 #[.int .i64 a, .int .i64 b] ∧
    Below w.heap.size w ((((W.setCell ⟨w.heap.size + 1, 0, none⟩ (.int .i64 o)).setCell ⟨w.heap.size + 1, 1, none⟩ (.slice A N c)).setCell ⟨w.heap.size + 1 + 1, 0, none⟩ (.int .i64 a)).setCell ⟨w.heap.size + 1 + 1, 1, none⟩ (.int .i64 b)) :=
  ⟨((h4.set2 (.int .i64 o) (.slice A N c)).setOther (by omega) _ _).setOther (by omega) _ _, ((h5.setOther (by omega) _ _).setOther (by omega) _ _).set2 _ _, below_set2 (below_set2 hW (by omega) _ _ _ _) (by omega) _ _ _ _⟩

set_option maxRecDepth 8000 in
set_option maxHeartbeats 2000000 in
theorem takeH_any (o : Int) (A : Option Addr) (n c : Nat) (l : List Room) (m : Int) (w : World) (hnc : n ≤ c) (hR : RoomsIn w A n l) :
    Calls Try.prog 8 #[.agg #[.int .i64 o, .slice A n c], .int .i64 m] w (TakePH o l m w) := by
  have hsz : (w.alloc (.cells #[.int .i64 o, .slice A n c] 24)).heap.size = w.heap.size + 1 := by simp
  have hsz2 : ((w.alloc (.cells #[.int .i64 o, .slice A n c] 24)).alloc (.cells #[.int .i64 0, .slice none 0 0] 24)).heap.size = w.heap.size + 1 + 1 := by simp
  have b0 := (((Below.refl _ w).alloc (Nat.le_refl _) (.cells #[.int .i64 o, .slice A n c] 24)).alloc (by omega) (.cells #[.int .i64 0, .slice none 0 0] 24)).alloc (by omega) (.cells #[.int .i64 0, .int .i64 0] 29)
  have x1 := ((Box.new w 24 #[.int .i64 o, .slice A n c]).alloc (.cells #[.int .i64 0, .slice none 0 0] 24)).alloc (.cells #[.int .i64 0, .int .i64 0] 29)
  have x2 := (Box.new (w.alloc (.cells #[.int .i64 o, .slice A n c] 24)) 24 #[.int .i64 0, .slice none 0 0]).alloc (.cells #[.int .i64 0, .int .i64 0] 29)
  have x3 := Box.new ((w.alloc (.cells #[.int .i64 o, .slice A n c] 24)).alloc (.cells #[.int .i64 0, .slice none 0 0] 24)) 29 #[.int .i64 0, .int .i64 0]
  rw [hsz] at x2
  rw [hsz2] at x3
  have HC := Lib.hid (gapsT_any o A n c l _ (hR.below b0))
  have HB0 := Lib.hid b0
  have HX1 := Lib.hid x1
  have HX2 := Lib.hid x2
  have HX3 := Lib.hid x3
  have HR := Lib.hid hR
  clear b0 x1 x2 x3 hsz hsz2 hR
  unfold TakePH
  unfold GapsP at HC
  go_enter Try.func8, Try.ntmps8
  go_wp2_with fail
  refine HC.out.mono ?_
  rintro e w2 ⟨v, rfl, hO, hb2⟩
  obtain ⟨A2, c2, rfl, hc2, hA2⟩ := hO.arr runC_len
  have B1 := HX1.out.below hb2 HX1.out.lt
  have B2 := HX2.out.below hb2 HX2.out.lt
  have B3 := HX3.out.below hb2 HX3.out.lt
  have HB := Lib.hid (HB0.out.trans (hb2.mono HB0.out.size))
  have HA2 := Lib.hid hA2
  clear hb2 HC HX1 HX2 HX3 HB0 hO hA2 hc2
  have c0 : w2.cell? ⟨w.heap.size, 0, none⟩ = some (.int .i64 o) := B1.cell 0
  have c1 : w2.cell? ⟨w.heap.size, 1, none⟩ = some (.slice A n c) := B1.cell 1
  have d0 : w2.cell? ⟨w.heap.size + 1, 0, none⟩ = some (.int .i64 0) := B2.cell 0
  have d1 : w2.cell? ⟨w.heap.size + 1, 1, none⟩ = some (.slice none 0 0) := B2.cell 1
  have s0 := B2.soft 0
  have s1 := B2.soft 1
  have f0 : w2.cell? ⟨w.heap.size + 1 + 1, 0, none⟩ = some (.int .i64 0) := B3.cell 0
  have f1 : w2.cell? ⟨w.heap.size + 1 + 1, 1, none⟩ = some (.int .i64 0) := B3.cell 1
  have t0 := B3.soft 0
  have t1 := B3.soft 1
  have HB1 := Lib.hid B1
  have HB2 := Lib.hid B2
  have HB3 := Lib.hid B3
  clear B1 B2 B3
  rcases hErr_cases o l with ⟨h0, k, rfl, hk, hok⟩ | ⟨h0, _⟩
  · rw [h0]
    have hrt := (right_iff hk).1 hok
    have hl := HR.out.2.1.1
    have h256 := pw_256 hk
    have hn256 : n ≤ 256 := by have := hrt.len; omega
    have hg : gapsH (k : Int) l = freeL l k 0 := by unfold gapsH; rw [if_pos h0]; rfl
    rw [hg] at HA2 ⊢
    have hglen := freeL_len l k 0
    have HTE := Lib.hid (takeE_ok (n := m) h0)
    clear hg hok h0
    by_cases hm : m < 1 ∨ (pw k : Int) < m
    · rw [if_pos hm] at HTE
      obtain ⟨u1, u2, u3, u4⟩ := take_none (o := k) (l := l) (n := m) (by rw [HTE.out]; decide)
      have U1 := Lib.hid u1
      have U2 := Lib.hid u2
      have U3 := Lib.hid u3
      have U4 := Lib.hid u4
      have HS := Lib.hid (fun wx => size_any k A n c wx hk)
      clear u1 u2 u3 u4 HR hrt hl hglen
      generalize freeL l k 0 = G at *
      rcases Int.lt_or_le m 1 with h1 | h1
      · obtain ⟨q1, q2, q3⟩ := takeTail w w2 HB.out HB2.out HB3.out 0 none 0 0 0 0
        have Q1 := Lib.hid q1
        have Q2 := Lib.hid q2
        have Q3 := Lib.hid q3
        clear q1 q2 q3 hm HS HA2
        generalize pw k = W at *
        go_wp2
        generalize ((((w2.setCell ⟨w.heap.size + 1, 0, none⟩ (.int .i64 0)).setCell ⟨w.heap.size + 1, 1, none⟩ (.slice none 0 0)).setCell ⟨w.heap.size + 1 + 1, 0, none⟩ (.int .i64 0)).setCell ⟨w.heap.size + 1 + 1, 1, none⟩ (.int .i64 0)) = W9 at *
        have g0 : W9.cell? ⟨w.heap.size + 1, 0, none⟩ = some (.int .i64 0) := Q1.out.cell 0
        have g1 : W9.cell? ⟨w.heap.size + 1, 1, none⟩ = some (.slice none 0 0) := Q1.out.cell 1
        have g2 : W9.cell? ⟨w.heap.size + 1 + 1, 0, none⟩ = some (.int .i64 0) := Q2.out.cell 0
        have g3 : W9.cell? ⟨w.heap.size + 1 + 1, 1, none⟩ = some (.int .i64 0) := Q2.out.cell 1
        refine bodyPost_ret (v := .tuple #[.agg #[.int .i64 0, .slice none 0 0], .agg #[.int .i64 0, .int .i64 0], .int .i64 4]) (by simp [results, Try.results8, go_sem, g0, g1, g2, g3]) rfl ⟨_, by rw [HTE.out, U1.out, U2.out, U3.out], by rw [U4.out]; exact OwnG.nil, Q3.out⟩
      · have h2 : (pw k : Int) < m := by omega
        have h3 : ¬ m < 1 := by omega
        clear hm h1 HA2
        generalize pw k = W at *
        go_wp2_with fail
        refine (HS.out _).mono ?_
        rintro e w3 ⟨rfl, hb3⟩
        have B2 := HB2.out.below hb3 HB2.out.lt
        have B3 := HB3.out.below hb3 HB3.out.lt
        obtain ⟨q1, q2, q3⟩ := takeTail w w3 (HB.out.trans (hb3.mono HB.out.size)) B2 B3 0 none 0 0 0 0
        have Q1 := Lib.hid q1
        have Q2 := Lib.hid q2
        have Q3 := Lib.hid q3
        clear q1 q2 q3 hb3 c0 c1 d0 d1 s0 s1 f0 f1 t0 t1
        have d0 : w3.cell? ⟨w.heap.size + 1, 0, none⟩ = some (.int .i64 0) := B2.cell 0
        have d1 : w3.cell? ⟨w.heap.size + 1, 1, none⟩ = some (.slice none 0 0) := B2.cell 1
        have s0 := B2.soft 0
        have s1 := B2.soft 1
        have f0 : w3.cell? ⟨w.heap.size + 1 + 1, 0, none⟩ = some (.int .i64 0) := B3.cell 0
        have f1 : w3.cell? ⟨w.heap.size + 1 + 1, 1, none⟩ = some (.int .i64 0) := B3.cell 1
        have t0 := B3.soft 0
        have t1 := B3.soft 1
        clear B2 B3
        go_wp2
        generalize ((((w3.setCell ⟨w.heap.size + 1, 0, none⟩ (.int .i64 0)).setCell ⟨w.heap.size + 1, 1, none⟩ (.slice none 0 0)).setCell ⟨w.heap.size + 1 + 1, 0, none⟩ (.int .i64 0)).setCell ⟨w.heap.size + 1 + 1, 1, none⟩ (.int .i64 0)) = W9 at *
        have g0 : W9.cell? ⟨w.heap.size + 1, 0, none⟩ = some (.int .i64 0) := Q1.out.cell 0
        have g1 : W9.cell? ⟨w.heap.size + 1, 1, none⟩ = some (.slice none 0 0) := Q1.out.cell 1
        have g2 : W9.cell? ⟨w.heap.size + 1 + 1, 0, none⟩ = some (.int .i64 0) := Q2.out.cell 0
        have g3 : W9.cell? ⟨w.heap.size + 1 + 1, 1, none⟩ = some (.int .i64 0) := Q2.out.cell 1
        refine bodyPost_ret (v := .tuple #[.agg #[.int .i64 0, .slice none 0 0], .agg #[.int .i64 0, .int .i64 0], .int .i64 4]) (by simp [results, Try.results8, go_sem, g0, g1, g2, g3]) rfl ⟨_, by rw [HTE.out, U1.out, U2.out, U3.out], by rw [U4.out]; exact OwnG.nil, Q3.out⟩
    · rw [if_neg hm] at HTE
      obtain ⟨M, rfl⟩ := Int.eq_ofNat_of_zero_le (by omega : 0 ≤ m)
      have hM1 : 1 ≤ M := by omega
      have hM2 : M ≤ pw k := by omega
      have hM3 : ¬ (M : Int) < 1 := by omega
      have hM4 : ¬ ((pw k : Nat) : Int) < (M : Int) := by omega
      have HS := Lib.hid (fun wx => size_any k A n c wx hk)
      have HBest : Hid (∀ wx, Below w2.heap.size w2 wx → Calls Try.prog 34 #[.slice A2 (freeL l k 0).length c2, .int .i64 (M : Int)] wx (ChooseP less (freeL l k 0) M wx)) := fun wx hwx =>
        Best_any A2 (freeL l k 0).length c2 (freeL l k 0) M wx (by unfold maxLen; omega) ((HA2.out.below hwx (Nat.le_refl _)).more hwx.size)
      unfold ChooseP at HBest
      have hTF := fun (p : Nat) => taken_facts (k := k) (l := l) (n := (M : Int)) (p := p)
      have HTF := Lib.hid hTF
      have hCE : chooseE less (freeL l k 0) (M : Int) = 0 → ∃ p : Nat, pickTo less (freeL l k 0) M (freeL l k 0).length = p ∧ chooseV less (freeL l k 0) M = p := fun h => by
        obtain ⟨_, _, h3⟩ := chooseE_zero h
        obtain ⟨p, hp⟩ := Int.eq_ofNat_of_zero_le h3
        exact ⟨p, hp, by unfold chooseV; rw [if_pos h]; exact hp⟩
      have HCE := Lib.hid hCE
      have hpwn := Lib.hid hM2
      clear hm hTF hCE hM2
      generalize hWk : pw k = W at *
      have HWk := Lib.hid hWk
      go_wp2_with fail
      refine (HS.out _).mono ?_
      rintro e w3 ⟨rfl, hb3⟩
      have HB3' := Lib.hid hb3
      have HBq := Lib.hid (HBest.out w3 hb3)
      clear hb3 HBest
      generalize chooseV less (freeL l k 0) (M : Int) = V at *
      generalize hEE : chooseE less (freeL l k 0) (M : Int) = E at *
      go_wp2_with fail
      refine HBq.out.mono ?_
      rintro e w4 ⟨rfl, hb4⟩
      have hb24 := HB3'.out.trans (hb4.mono HB3'.out.size)
      have B1 := HB1.out.below hb24 HB1.out.lt
      have B2 := HB2.out.below hb24 HB2.out.lt
      have B3 := HB3.out.below hb24 HB3.out.lt
      have hbw4 := HB.out.trans (hb24.mono HB.out.size)
      have HBw4 := Lib.hid hbw4
      have HA4 := Lib.hid ((HA2.out.below hb24 (Nat.le_refl _)).more hb24.size)
      clear hb4 hb24 HBq c0 c1 d0 d1 s0 s1 f0 f1 t0 t1 HB1 HB2 HB3 HB3' hbw4 HA2 HB
      have c0 : w4.cell? ⟨w.heap.size, 0, none⟩ = some (.int .i64 k) := B1.cell 0
      have c1 : w4.cell? ⟨w.heap.size, 1, none⟩ = some (.slice A n c) := B1.cell 1
      have d0 : w4.cell? ⟨w.heap.size + 1, 0, none⟩ = some (.int .i64 0) := B2.cell 0
      have d1 : w4.cell? ⟨w.heap.size + 1, 1, none⟩ = some (.slice none 0 0) := B2.cell 1
      have s0 := B2.soft 0
      have s1 := B2.soft 1
      have f0 : w4.cell? ⟨w.heap.size + 1 + 1, 0, none⟩ = some (.int .i64 0) := B3.cell 0
      have f1 : w4.cell? ⟨w.heap.size + 1 + 1, 1, none⟩ = some (.int .i64 0) := B3.cell 1
      have t0 := B3.soft 0
      have t1 := B3.soft 1
      have HB1 := Lib.hid B1
      have HB2 := Lib.hid B2
      have HB3 := Lib.hid B3
      clear B1 B2 B3
      by_cases hE0 : E = 0
      · subst hE0
        obtain ⟨p, hp, rfl⟩ := HCE.out rfl
        obtain ⟨hpl, b, i, hge, hfr, hfit, htk⟩ := HTF.out p hp
        obtain ⟨u1, u2, u3, u4⟩ := take_some HTE.out
        rw [htk] at u2 u3 u4
        simp only at u2 u3
        have U1 := Lib.hid u1
        have U2 := Lib.hid u2
        have U3 := Lib.hid u3
        have U4 := Lib.hid u4
        have hik := hfr.le
        have hhi := hfr.hi
        obtain ⟨bG, offG, rfl, hbG, hv0, hv1⟩ := HA4.out.run hpl
        rw [hge] at hv0 hv1
        simp only at hv0 hv1
        have hpl' : (p : Int) < ((freeL l k 0).length : Int) := by omega
        have HH := Lib.hid (fun wx => halve_any b i M wx (by omega) hM1 (by omega))
        have hmm := halveL_le (M : Int) i
        have hpw9 : pw (halveL (M : Int) i) ≤ 256 := pw_256 (by omega)
        have HX := Lib.hid HR.out.2.1
        have hb1000 : b ≤ 256 := by omega
        clear u1 u2 u3 u4 htk hge hfr hfit hp HTF HCE HA4 HR hrt hmm hik hhi hl hWk hEE
        generalize pw (halveL (M : Int) i) = L at *
        generalize (freeL l k 0).length = gn at *
        go_wp2_with fail
        refine (HH.out _).mono ?_
        rintro e w5 ⟨rfl, hb5⟩
        have B1 := (HB1.out.below hb5 HB1.out.lt).alloc (.cells #[.int .i64 b, .int .i64 L] 29)
        have B2 := (HB2.out.below hb5 HB2.out.lt).alloc (.cells #[.int .i64 b, .int .i64 L] 29)
        have B3 := (HB3.out.below hb5 HB3.out.lt).alloc (.cells #[.int .i64 b, .int .i64 L] 29)
        have B4 := Box.new w5 29 #[.int .i64 b, .int .i64 L]
        have hb45 := HBw4.out.trans (hb5.mono HBw4.out.size)
        have HBw6 := Lib.hid (hb45.alloc hb45.size (.cells #[.int .i64 b, .int .i64 L] 29))
        have hlt5 := (HB3.out.below hb5 HB3.out.lt).lt
        have hs6 : (w5.alloc (.cells #[.int .i64 b, .int .i64 L] 29)).heap.size = w5.heap.size + 1 := by simp
        have c0 : (w5.alloc (.cells #[.int .i64 b, .int .i64 L] 29)).cell? ⟨w.heap.size, 0, none⟩ = some (.int .i64 k) := B1.cell 0
        have c1 : (w5.alloc (.cells #[.int .i64 b, .int .i64 L] 29)).cell? ⟨w.heap.size, 1, none⟩ = some (.slice A n c) := B1.cell 1
        have e0 : (w5.alloc (.cells #[.int .i64 b, .int .i64 L] 29)).cell? ⟨w5.heap.size, 0, none⟩ = some (.int .i64 b) := B4.cell 0
        have e1 : (w5.alloc (.cells #[.int .i64 b, .int .i64 L] 29)).cell? ⟨w5.heap.size, 1, none⟩ = some (.int .i64 L) := B4.cell 1
        have HW := Lib.hid (with_any k A n c l b L M (w5.alloc (.cells #[.int .i64 b, .int .i64 L] 29)).drew hn256 hnc ((HX.out.below HBw6.out (Nat.le_refl _)).more HBw6.out.size))
        unfold WithP at HW
        have HB2' := Lib.hid B2
        have HB3' := Lib.hid B3
        clear hb5 hb45 B1 B2 B3 B4 HB1 HB2 HB3 HBw4 HX d0 d1 s0 s1 f0 f1 t0 t1 hv0 hv1 hbG HH
        go_wp2_with fail
        generalize (w5.alloc (.cells #[.int .i64 b, .int .i64 L] 29)) = w6 at *
        have hn1 : ¬ w5.heap.size = w.heap.size + 1 := by omega
        have hn2 : ¬ w5.heap.size = w.heap.size + 1 + 1 := by omega
        have hn3 : ¬ w.heap.size + 1 = w5.heap.size := by omega
        have hn4 : ¬ w.heap.size + 1 + 1 = w5.heap.size := by omega
        have hn5 : ¬ w.heap.size = w.heap.size + 1 + 1 := by omega
        have hn6 : ¬ w.heap.size + 1 + 1 = w.heap.size := by omega
        go_region_held3 (fun w' => w'.cell? ⟨w.heap.size, 0, none⟩ = some (.int .i64 k) ∧ w'.cell? ⟨w.heap.size, 1, none⟩ = some (.slice A n c) ∧ w'.cell? ⟨w5.heap.size, 0, none⟩ = some (.int .i64 b) ∧ w'.cell? ⟨w5.heap.size, 1, none⟩ = some (.int .i64 L))
          (first
            | go_keep
            | exact ⟨(hb7.cell (p := ⟨w.heap.size, 0, none⟩) (by show w.heap.size < _; omega)).trans c0, (hb7.cell (p := ⟨w.heap.size, 1, none⟩) (by show w.heap.size < _; omega)).trans c1, (hb7.cell (p := ⟨w5.heap.size, 0, none⟩) (by show w5.heap.size < _; omega)).trans e0, (hb7.cell (p := ⟨w5.heap.size, 1, none⟩) (by show w5.heap.size < _; omega)).trans e1⟩
            | exact ⟨(cell_setOther _ (by omega) 1 _ _).trans ((cell_setOther w7 (by omega) 0 _ _).trans k0), (cell_setOther _ (by omega) 1 _ _).trans ((cell_setOther w7 (by omega) 0 _ _).trans k1), (cell_setOther _ (by omega) 1 _ _).trans ((cell_setOther w7 (by omega) 0 _ _).trans k2), (cell_setOther _ (by omega) 1 _ _).trans ((cell_setOther w7 (by omega) 0 _ _).trans k3)⟩
            | exact ⟨(cell_setOther _ (by omega) 1 _ _).trans ((cell_setOther _ (by omega) 0 _ _).trans ((cell_setOther _ (by omega) 1 _ _).trans ((cell_setOther w7 (by omega) 0 _ _).trans k0))), (cell_setOther _ (by omega) 1 _ _).trans ((cell_setOther _ (by omega) 0 _ _).trans ((cell_setOther _ (by omega) 1 _ _).trans ((cell_setOther w7 (by omega) 0 _ _).trans k1))), (cell_setOther _ (by omega) 1 _ _).trans ((cell_setOther _ (by omega) 0 _ _).trans ((cell_setOther _ (by omega) 1 _ _).trans ((cell_setOther w7 (by omega) 0 _ _).trans k2))), (cell_setOther _ (by omega) 1 _ _).trans ((cell_setOther _ (by omega) 0 _ _).trans ((cell_setOther _ (by omega) 1 _ _).trans ((cell_setOther w7 (by omega) 0 _ _).trans k3)))⟩)
          (first
            | (go_at_call 36; refine HW.out.mono ?_; rintro e w7 ⟨v, rfl, hO, hb7⟩; have hb7 : Below w6.heap.size w6 w7 := below_of_drew hb7; obtain ⟨A7, c7, rfl, hc7, _⟩ := hO.arr roomC_len; have x3 := HB3'.out.below hb7 HB3'.out.lt; have x2 := HB2'.out.below hb7 HB2'.out.lt; have z0 : w7.cell? ⟨w.heap.size + 1, 0, none⟩ = some (.int .i64 0) := x2.cell 0; have z1 : w7.cell? ⟨w.heap.size + 1, 1, none⟩ = some (.slice none 0 0) := x2.cell 1; have s0 := x2.soft 0; have s1 := x2.soft 1; have z2 : w7.cell? ⟨w.heap.size + 1 + 1, 0, none⟩ = some (.int .i64 0) := x3.cell 0; have z3 : w7.cell? ⟨w.heap.size + 1 + 1, 1, none⟩ = some (.int .i64 0) := x3.cell 1; have t0 := x3.soft 0; have t1 := x3.soft 1; have k0 := (hb7.cell (p := ⟨w.heap.size, 0, none⟩) (by show w.heap.size < _; omega)).trans c0; have k1 := (hb7.cell (p := ⟨w.heap.size, 1, none⟩) (by show w.heap.size < _; omega)).trans c1; have k2 := (hb7.cell (p := ⟨w5.heap.size, 0, none⟩) (by show w5.heap.size < _; omega)).trans e0; have k3 := (hb7.cell (p := ⟨w5.heap.size, 1, none⟩) (by show w5.heap.size < _; omega)).trans e1))
        have hbe := HBw6.out.trans (hb7.mono HBw6.out.size)
        have hO7 : OwnG roomC 3 42 w7 w6.heap.size (.slice A7 (insL ((b : Int), (L : Int), (M : Int)) l).length c7) (insL ((b : Int), (L : Int), (M : Int)) l) := hO
        obtain ⟨GL, hGL⟩ : ∃ GL, insL ((b : Int), (L : Int), (M : Int)) l = GL := ⟨_, rfl⟩
        have HGL := Lib.hid (U4.out.trans hGL)
        rw [hGL] at hO7 ⊢
        generalize hN : GL.length = N at *
        obtain ⟨q1, q2, q3⟩ := takeTail w w7 hbe x2 x3 k A7 N c7 b L
        have Q1 := Lib.hid q1
        have Q2 := Lib.hid q2
        have Q3 := Lib.hid q3
        have BO := Lib.hid (((((hO7.setOther (g := w.heap.size + 1) (by omega) 0 (.int .i64 k)).setOther (g := w.heap.size + 1) (by omega) 1 (.slice A7 N c7)).setOther (g := w.heap.size + 1 + 1) (by omega) 0 (.int .i64 b)).setOther (g := w.heap.size + 1 + 1) (by omega) 1 (.int .i64 L)).less (base' := w.heap.size) (by omega))
        clear hb7 hO hO7 hbe x2 x3 hc7 hN hGL c0 c1 e0 e1 k0 k1 k2 k3 z0 z1 z2 z3 s0 s1 t0 t1 q1 q2 q3 HBw6 HW HB2' HB3'
        go_wp2
        generalize ((((w7.setCell ⟨w.heap.size + 1, 0, none⟩ (.int .i64 k)).setCell ⟨w.heap.size + 1, 1, none⟩ (.slice A7 N c7)).setCell ⟨w.heap.size + 1 + 1, 0, none⟩ (.int .i64 b)).setCell ⟨w.heap.size + 1 + 1, 1, none⟩ (.int .i64 L)) = W9 at *
        have g0 : W9.cell? ⟨w.heap.size + 1, 0, none⟩ = some (.int .i64 k) := Q1.out.cell 0
        have g1 : W9.cell? ⟨w.heap.size + 1, 1, none⟩ = some (.slice A7 N c7) := Q1.out.cell 1
        have g2 : W9.cell? ⟨w.heap.size + 1 + 1, 0, none⟩ = some (.int .i64 b) := Q2.out.cell 0
        have g3 : W9.cell? ⟨w.heap.size + 1 + 1, 1, none⟩ = some (.int .i64 L) := Q2.out.cell 1
        refine bodyPost_ret (v := .tuple #[.agg #[.int .i64 k, .slice A7 N c7], .agg #[.int .i64 b, .int .i64 L], .int .i64 0]) (by simp [results, Try.results8, go_sem, g0, g1, g2, g3]) rfl ⟨_, by rw [HTE.out, U1.out, U2.out, U3.out], by rw [HGL.out]; exact BO.out, Q3.out⟩
      · have HEE := Lib.hid hEE
        obtain ⟨u1, u2, u3, u4⟩ := take_none (o := k) (l := l) (n := M) (by rw [HTE.out]; exact hE0)
        have U1 := Lib.hid u1
        have U2 := Lib.hid u2
        have U3 := Lib.hid u3
        have U4 := Lib.hid u4
        have hne : (E != 0) = true := by simpa using hE0
        obtain ⟨q1, q2, q3⟩ := takeTail w w4 HBw4.out HB2.out HB3.out 0 none 0 0 0 0
        have Q1 := Lib.hid q1
        have Q2 := Lib.hid q2
        have Q3 := Lib.hid q3
        clear u1 u2 u3 u4 HTF HCE HA4 HR hrt q1 q2 q3 hl hWk hEE hE0
        generalize (freeL l k 0).length = gn at *
        go_wp2
        generalize ((((w4.setCell ⟨w.heap.size + 1, 0, none⟩ (.int .i64 0)).setCell ⟨w.heap.size + 1, 1, none⟩ (.slice none 0 0)).setCell ⟨w.heap.size + 1 + 1, 0, none⟩ (.int .i64 0)).setCell ⟨w.heap.size + 1 + 1, 1, none⟩ (.int .i64 0)) = W9 at *
        have g0 : W9.cell? ⟨w.heap.size + 1, 0, none⟩ = some (.int .i64 0) := Q1.out.cell 0
        have g1 : W9.cell? ⟨w.heap.size + 1, 1, none⟩ = some (.slice none 0 0) := Q1.out.cell 1
        have g2 : W9.cell? ⟨w.heap.size + 1 + 1, 0, none⟩ = some (.int .i64 0) := Q2.out.cell 0
        have g3 : W9.cell? ⟨w.heap.size + 1 + 1, 1, none⟩ = some (.int .i64 0) := Q2.out.cell 1
        refine bodyPost_ret (v := .tuple #[.agg #[.int .i64 0, .slice none 0 0], .agg #[.int .i64 0, .int .i64 0], .int .i64 E]) (by simp [results, Try.results8, go_sem, g0, g1, g2, g3]) rfl ⟨_, by rw [HTE.out, U1.out, U2.out, U3.out], by rw [U4.out]; exact OwnG.nil, Q3.out⟩
  · have HE : Hid (takeE o l m = hErr o l) := by show _ = _; unfold takeE; rw [if_neg h0]
    obtain ⟨u1, u2, u3, u4⟩ := take_none (o := o) (l := l) (n := m) (by rw [HE.out]; exact h0)
    have U1 := Lib.hid u1
    have U2 := Lib.hid u2
    have U3 := Lib.hid u3
    have U4 := Lib.hid u4
    have hne : (hErr o l != 0) = true := by simpa using h0
    obtain ⟨q1, q2, q3⟩ := takeTail w w2 HB.out HB2.out HB3.out 0 none 0 0 0 0
    have Q1 := Lib.hid q1
    have Q2 := Lib.hid q2
    have Q3 := Lib.hid q3
    clear u1 u2 u3 u4 HR q1 q2 q3 HA2
    generalize hErr o l = E at *
    generalize (gapsH o l).length = gn at *
    go_wp2
    generalize ((((w2.setCell ⟨w.heap.size + 1, 0, none⟩ (.int .i64 0)).setCell ⟨w.heap.size + 1, 1, none⟩ (.slice none 0 0)).setCell ⟨w.heap.size + 1 + 1, 0, none⟩ (.int .i64 0)).setCell ⟨w.heap.size + 1 + 1, 1, none⟩ (.int .i64 0)) = W9 at *
    have g0 : W9.cell? ⟨w.heap.size + 1, 0, none⟩ = some (.int .i64 0) := Q1.out.cell 0
    have g1 : W9.cell? ⟨w.heap.size + 1, 1, none⟩ = some (.slice none 0 0) := Q1.out.cell 1
    have g2 : W9.cell? ⟨w.heap.size + 1 + 1, 0, none⟩ = some (.int .i64 0) := Q2.out.cell 0
    have g3 : W9.cell? ⟨w.heap.size + 1 + 1, 1, none⟩ = some (.int .i64 0) := Q2.out.cell 1
    refine bodyPost_ret (v := .tuple #[.agg #[.int .i64 0, .slice none 0 0], .agg #[.int .i64 0, .int .i64 0], .int .i64 E]) (by simp [results, Try.results8, go_sem, g0, g1, g2, g3]) rfl ⟨_, by rw [HE.out, U1.out, U2.out, U3.out], by rw [U4.out]; exact OwnG.nil, Q3.out⟩
end Go.Proofs.Ytdieokpfkojoiaa
