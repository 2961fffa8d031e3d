/-
  The contract of the reference's Written; what StepTells holds behind its head: the state, what Step, Write and Done answered ('TtI').
-/
import Derived.Test.YthdnfocemchgjaaStepI
import Derived.Test.YthdnfocemchgjaaStepT
import Derived.Test.YthdnfocemchgjaaStepH
import Derived.Deep.DeepCutAuto
namespace Go.Proofs.Ythdnfocemchgjaa
open Go.RowKit

/-- The error of a write into an arena that is right. -/
def wrtE (zs : List Int) (a r z : Int) : Int := if a ∉ livesI zs then 5 else if r < 0 ∨ vR (nth zs a.toNat) ≤ r ∨ (z ≠ -1 ∧ z ∉ livesI zs) then 4 else 0
def wrtL (zs : List Int) (a r z : Int) : List Int := if wrtE zs a r z = 0 then wrL zs a.toNat r.toNat z else []
theorem writeE_wrtE {zs g b : List Int} {a r z : Int} (h : triE zs g b = 0) : writeE zs g b a r z = wrtE zs a r z := by unfold writeE wrtE; rw [if_neg (by simp [h])]
section
variable {zs : List Int} {a r z : Int}
theorem wrtE_none (ha : a ∉ livesI zs) : wrtE zs a r z = 5 := if_pos ha
theorem wrtE_range (ha : a ∈ livesI zs) (hr : r < 0 ∨ vR (nth zs a.toNat) ≤ r ∨ (z ≠ -1 ∧ z ∉ livesI zs)) : wrtE zs a r z = 4 := by unfold wrtE; rw [if_neg (by simpa using ha), if_pos hr]
theorem wrtE_ok (ha : a ∈ livesI zs) (hr : ¬ (r < 0 ∨ vR (nth zs a.toNat) ≤ r ∨ (z ≠ -1 ∧ z ∉ livesI zs))) : wrtE zs a r z = 0 := by unfold wrtE; rw [if_neg (by simpa using ha), if_neg hr]
theorem wrtL_bad (h : wrtE zs a r z ≠ 0) : wrtL zs a r z = [] := if_neg h
theorem wrtL_ok (h : wrtE zs a r z = 0) : wrtL zs a r z = wrL zs a.toNat r.toNat z := if_pos h
end
/-- What Written answers. -/
def WrittenP (zs : List Int) (a r z : Int) (w : World) (e : Ending) (w' : World) : Prop := ∃ O m c, e = .returned (.tuple #[.slice O m c, .int .i64 (wrtE zs a r z)]) ∧ Below w.heap.size w w' ∧ m ≤ 256 ∧ Arr .u64 w' w'.heap.size O m (wrtL zs a r z)

set_option maxRecDepth 8000 in
set_option maxHeartbeats 2000000 in
theorem written_none (A : Option Addr) (n c : Nat) (zs : List Int) (a r z : Int) (w : World) (ha : Arr .u64 w w.heap.size A n zs) (h : arErr zs = 0) (hna : a ∉ livesI zs) :
    Calls Try.prog 10 #[.slice A n c, .int .i64 a, .int .i64 r, .int .i64 z] w (WrittenP zs a r z w) := by
  have HE : Hid (wrtE zs a r z = 5) := wrtE_none hna
  have HL : Hid (wrtL zs a r z = []) := wrtL_bad (by rw [HE.out]; decide)
  have HH := Lib.hid (headNone_any A n c a zs w ha h hna)
  clear ha h hna
  unfold WrittenP
  go_enter Try.func10, Try.ntmps10
  go_wp2_with fail
  refine HH.out.mono ?_
  rintro e w1 ⟨rfl, b1⟩
  have HB := Lib.hid (b1.alloc b1.size (.cells #[.int .i64 0, .int .i64 0, .int .i64 0, .bool false] 72))
  clear b1 HH
  go_wp2
  go_ret2
  exact ⟨none, 0, 0, by rw [HE.out]; rfl, HB.out, Nat.zero_le _, by rw [HL.out]; exact Arr.zero⟩

set_option maxRecDepth 8000 in
set_option maxHeartbeats 4000000 in
theorem written_any (A : Option Addr) (n c : Nat) (zs : List Int) (a r z : Int) (w : World) (ha : Arr .u64 w w.heap.size A n zs) (h : arErr zs = 0) :
    Calls Try.prog 10 #[.slice A n c, .int .i64 a, .int .i64 r, .int .i64 z] w (WrittenP zs a r z w) := by
  by_cases hla : a ∈ livesI zs
  · obtain ⟨t, rfl⟩ : ∃ t : Nat, a = t := ⟨a.toNat, by have := lives_pos a hla; omega⟩
    have HA := Lib.hid ha
    have H0 := Lib.hid h
    have HLA := Lib.hid hla
    have hl := ha.1
    have h256 := arena_len h
    have HH := Lib.hid (headLive_any A n c t zs w ha h hla)
    obtain ⟨R, hR⟩ : ∃ R, vR (nth zs t) = R := ⟨_, rfl⟩
    have HRR := Lib.hid hR
    rw [hR] at HH
    generalize vB (nth zs t) = Bd at *
    generalize vT (nth zs t) = T at *
    clear ha h hla hR
    unfold WrittenP
    go_enter Try.func10, Try.ntmps10
    go_wp2_with fail
    refine HH.out.mono ?_
    rintro e w1 ⟨rfl, b1⟩
    have HB1 := Lib.hid (b1.alloc b1.size (.cells #[.int .i64 R, .int .i64 Bd, .int .i64 T, .bool false] 72))
    have HX1 := Lib.hid (Box.new w1 72 #[.int .i64 R, .int .i64 Bd, .int .i64 T, .bool false])
    have HS1 := Lib.hid b1.size
    clear b1 HH
    have HH := Lib.hid (headAny_any A n c z zs _ (HA.out.later HB1.out) H0.out)
    go_wp2_with fail
    refine HH.out.mono ?_
    rintro e w2 ⟨x1, x2, x3, rfl, b2⟩
    have b3 := (Below.refl _ w2).alloc (Nat.le_refl _) (.cells #[.int .i64 x1, .int .i64 x2, .int .i64 x3, .bool false] 72)
    have HB3 := Lib.hid ((HB1.out.trans (b2.mono HB1.out.size)).trans (b3.mono (by have := HB1.out.size; have := b2.size; omega)))
    have HX3 := Lib.hid ((HX1.out.below b2 HX1.out.lt).below b3 (by have := b2.size; have := HX1.out.lt; omega))
    clear b2 b3 HH
    have d0 : (w2.alloc (.cells #[.int .i64 x1, .int .i64 x2, .int .i64 x3, .bool false] 72)).cell? ⟨w1.heap.size, 0, none⟩ = some (.int .i64 R) := HX3.out.cell 0
    have HLZ : Hid (∃ D, decide (z ∈ livesI zs) = D) := ⟨_, rfl⟩
    obtain ⟨D, hD⟩ := HLZ.out
    have HD := Lib.hid hD
    rw [hD]
    clear hD HLZ
    by_cases hr0 : r < 0
    · have c1 : (r < 0) = True := eq_true hr0
      have HE := Lib.hid (wrtE_range (r := r) (z := z) HLA.out (by rw [Int.toNat_natCast, HRR.out]; exact .inl hr0))
      have HL := Lib.hid (wrtL_bad (zs := zs) (a := (t : Int)) (r := r) (z := z) (by rw [HE.out]; decide))
      go_wp2
      go_ret2
      exact ⟨none, 0, 0, by rw [HE.out]; rfl, HB3.out, Nat.zero_le _, by rw [HL.out]; exact Arr.zero⟩
    · have c1 : (r < 0) = False := eq_false hr0
      by_cases hrR : R ≤ r
      · have c2 : (R ≤ r) = True := eq_true hrR
        have c3 : (r ≥ R) = True := eq_true hrR
        have HE := Lib.hid (wrtE_range (r := r) (z := z) HLA.out (by rw [Int.toNat_natCast, HRR.out]; exact .inr (.inl hrR)))
        have HL := Lib.hid (wrtL_bad (zs := zs) (a := (t : Int)) (r := r) (z := z) (by rw [HE.out]; decide))
        go_wp2
        go_ret2
        exact ⟨none, 0, 0, by rw [HE.out]; rfl, HB3.out, Nat.zero_le _, by rw [HL.out]; exact Arr.zero⟩
      · have c2 : (R ≤ r) = False := eq_false hrR
        have c3 : (r ≥ R) = False := eq_false hrR
        obtain ⟨k, hk⟩ : ∃ k : Nat, r = k := ⟨r.toNat, by omega⟩
        subst hk
        have HKR := Lib.hid (show (k : Int) < R by omega)
        clear hr0 hrR
        have HW : Hid (∀ hz : z = -1 ∨ z ∈ livesI zs, WrOk zs t k z) := fun hz => ⟨HA.out.2.1, H0.out, HLA.out, by rw [HRR.out]; exact HKR.out, hz⟩
        by_cases hz : z = -1 ∨ z ∈ livesI zs
        · have HWO := Lib.hid (HW.out hz)
          have HE := Lib.hid (wrtE_ok (r := (k : Int)) (z := z) HLA.out (by rw [Int.toNat_natCast, HRR.out]; have := HKR.out; rintro (h | h | h); omega; omega; exact hz.elim h.1 h.2))
          have HL := Lib.hid (wrtL_ok HE.out)
          rw [Int.toNat_natCast, Int.toNat_natCast] at HL
          have hzf := HWO.out.facts
          have hjn : t + 1 + k < n := by omega
          have HZR := Lib.hid hzf.2.2.2.2
          obtain ⟨P, hP⟩ : ∃ P : Nat, z + 1 = P := ⟨(z + 1).toNat, by omega⟩
          have HP := Lib.hid hP
          have e1 : IntKind.i64.wrap (z + 1) = (P : Int) := by rw [hP]; exact IntWalk.i64_in _ (by omega)
          have hP256 : P ≤ 256 := by omega
          have g1 : IntKind.i64.wrap ((t : Int) + 1) = t + 1 := IntWalk.i64_in _ (by omega)
          have g2 : IntKind.i64.wrap ((t : Int) + 1 + (k : Int)) = t + 1 + k := IntWalk.i64_in _ (by omega)
          have g5 : ((t : Int) + 1 + (k : Int)).toNat = t + 1 + k := by omega
          have g6 : (t : Int) + 1 + (k : Int) < (n : Int) := by omega
          have HCL := Lib.hid (refClone_any A n c zs _ (by omega) (HA.out.later HB3.out))
          unfold Cloned at HCL
          have hcase : (z != -1) = false ∨ ((z != -1) = true ∧ D = true) := by
            by_cases e : z = -1
            · exact .inl (by simp [e])
            · refine .inr ⟨by simpa using e, ?_⟩
              rw [← HD.out]
              simpa using hz.resolve_left e
          clear hzf hP hz
          rcases hcase with c4 | ⟨c4, rfl⟩
          · go_wp2_with fail
            refine HCL.out.mono ?_
            rintro e w4 ⟨O, oc, rfl, hO, b4⟩
            generalize (w2.alloc (.cells #[.int .i64 x1, .int .i64 x2, .int .i64 x3, .bool false] 72)) = w3 at *
            have HB4 := Lib.hid (HB3.out.trans (b4.mono HB3.out.size))
            obtain ⟨gO, rfl, hgb, hgl, hcw, hfw, hO5, _, _⟩ := hO.setWord hjn (x := 0) (wf_u64.2 (by omega))
            have HO5 := Lib.hid hO5
            have HB5 : Hid (Below w.heap.size w (w4.setCell ⟨gO, t + 1 + k, none⟩ (.int .u64 0))) := below_set HB4.out (by have := HB3.out.size; omega) _ _
            have HGB := Lib.hid (show w.heap.size ≤ gO by have := HB3.out.size; omega)
            clear b4 hO hO5 HCL hgb d0 hgl
            go_wp2_with fail
            clear hcw hfw
            generalize (w4.setCell ⟨gO, t + 1 + k, none⟩ (.int .u64 0)) = w5 at *
            go_loopw [55] (fun i wr => ∃ q : Nat, q ≤ P ∧ i = .int .i64 q ∧ Hid (Own .u64 55 wr w3.heap.size (.slice (some ⟨gO, 0, none⟩) n oc) (zs.set (t + 1 + k) (q : Int))) ∧ Hid (Below w.heap.size w wr)) (fun i _ => P - (intOf i).toNat)
            case atStart => exact ⟨0, Nat.zero_le _, rfl, HO5.out, HB5.out⟩
            case round =>
              obtain ⟨q, hq, rfl, HO, HB⟩ := hrel
              by_cases hlt : q < P
              · obtain ⟨gO2, hg2, _, _, hcw, hfw, hO6, _, _⟩ := HO.out.setWord hjn (x := ((q + 1 : Nat) : Int)) (wf_u64.2 (by omega))
                injection hg2 with hg2
                injection hg2 with hg2 _ _
                subst hg2
                rw [nth_set _ (by omega), if_pos rfl] at hcw
                rw [List.set_set] at hO6
                have e5 : IntKind.u64.wrap ((q : Int) + 1) = ((q + 1 : Nat) : Int) := by rw [IntWalk.u64_in _ (by omega)]; omega
                have HO6 := Lib.hid hO6
                have HB6 : Hid (Below w.heap.size w (wr.setCell ⟨gO, t + 1 + k, none⟩ (.int .u64 ((q + 1 : Nat) : Int)))) := below_set HB.out HGB.out _ _
                clear hO6 HO HB
                go_wp2
                go_roundw
                case rel => exact ⟨q + 1, by omega, by go_num, HO6.out, HB6.out⟩
                case measure => simp [intOf]; omega
              · obtain rfl : q = P := by omega
                rw [← HP.out] at HO
                rw [show zs.set (t + 1 + k) (z + 1) = wrL zs t k z from rfl] at HO
                obtain ⟨A', c', hv, _, hA'⟩ := HO.out.arr
                injection hv with v1 v2 v3
                rw [← v1, ← v2, ← HL.out] at hA'
                have HA' := Lib.hid hA'
                clear hA' v1 v2 v3 HO
                go_wp2
                go_ret2
                exact ⟨_, n, oc, by rw [HE.out]; rfl, HB.out, by omega, HA'.out⟩
          · go_wp2_with fail
            refine HCL.out.mono ?_
            rintro e w4 ⟨O, oc, rfl, hO, b4⟩
            generalize (w2.alloc (.cells #[.int .i64 x1, .int .i64 x2, .int .i64 x3, .bool false] 72)) = w3 at *
            have HB4 := Lib.hid (HB3.out.trans (b4.mono HB3.out.size))
            obtain ⟨gO, rfl, hgb, hgl, hcw, hfw, hO5, _, _⟩ := hO.setWord hjn (x := 0) (wf_u64.2 (by omega))
            have HO5 := Lib.hid hO5
            have HB5 : Hid (Below w.heap.size w (w4.setCell ⟨gO, t + 1 + k, none⟩ (.int .u64 0))) := below_set HB4.out (by have := HB3.out.size; omega) _ _
            have HGB := Lib.hid (show w.heap.size ≤ gO by have := HB3.out.size; omega)
            clear b4 hO hO5 HCL hgb d0 hgl
            go_wp2_with fail
            clear hcw hfw
            generalize (w4.setCell ⟨gO, t + 1 + k, none⟩ (.int .u64 0)) = w5 at *
            go_loopw [55] (fun i wr => ∃ q : Nat, q ≤ P ∧ i = .int .i64 q ∧ Hid (Own .u64 55 wr w3.heap.size (.slice (some ⟨gO, 0, none⟩) n oc) (zs.set (t + 1 + k) (q : Int))) ∧ Hid (Below w.heap.size w wr)) (fun i _ => P - (intOf i).toNat)
            case atStart => exact ⟨0, Nat.zero_le _, rfl, HO5.out, HB5.out⟩
            case round =>
              obtain ⟨q, hq, rfl, HO, HB⟩ := hrel
              by_cases hlt : q < P
              · obtain ⟨gO2, hg2, _, _, hcw, hfw, hO6, _, _⟩ := HO.out.setWord hjn (x := ((q + 1 : Nat) : Int)) (wf_u64.2 (by omega))
                injection hg2 with hg2
                injection hg2 with hg2 _ _
                subst hg2
                rw [nth_set _ (by omega), if_pos rfl] at hcw
                rw [List.set_set] at hO6
                have e5 : IntKind.u64.wrap ((q : Int) + 1) = ((q + 1 : Nat) : Int) := by rw [IntWalk.u64_in _ (by omega)]; omega
                have HO6 := Lib.hid hO6
                have HB6 : Hid (Below w.heap.size w (wr.setCell ⟨gO, t + 1 + k, none⟩ (.int .u64 ((q + 1 : Nat) : Int)))) := below_set HB.out HGB.out _ _
                clear hO6 HO HB
                go_wp2
                go_roundw
                case rel => exact ⟨q + 1, by omega, by go_num, HO6.out, HB6.out⟩
                case measure => simp [intOf]; omega
              · obtain rfl : q = P := by omega
                rw [← HP.out] at HO
                rw [show zs.set (t + 1 + k) (z + 1) = wrL zs t k z from rfl] at HO
                obtain ⟨A', c', hv, _, hA'⟩ := HO.out.arr
                injection hv with v1 v2 v3
                rw [← v1, ← v2, ← HL.out] at hA'
                have HA' := Lib.hid hA'
                clear hA' v1 v2 v3 HO
                go_wp2
                go_ret2
                exact ⟨_, n, oc, by rw [HE.out]; rfl, HB.out, by omega, HA'.out⟩
        · have hz1 : z ≠ -1 := fun e => hz (.inl e)
          have hz2 : z ∉ livesI zs := fun e => hz (.inr e)
          have c4 : (z != -1) = true := by simpa using hz1
          have hDf : D = false := by rw [← HD.out]; simpa using hz2
          subst hDf
          have HE := Lib.hid (wrtE_range (r := (k : Int)) (z := z) HLA.out (by rw [Int.toNat_natCast, HRR.out]; exact .inr (.inr ⟨hz1, hz2⟩)))
          have HL := Lib.hid (wrtL_bad (zs := zs) (a := (t : Int)) (r := (k : Int)) (z := z) (by rw [HE.out]; decide))
          clear hz hz1 hz2
          go_wp2
          go_ret2
          exact ⟨none, 0, 0, by rw [HE.out]; rfl, HB3.out, Nat.zero_le _, by rw [HL.out]; exact Arr.zero⟩
  · exact written_none A n c zs a r z w ha h hla


structure TtI (w : World) (gX gY gN : Nat) (A G K : Option Addr) (n c ng cg nb cb : Nat) (zs g b : List Int) (A3 G3 K3 : Option Addr) (n3 c3 g3 cg3 k3 cb3 : Nat) (tx : Tri3) (A5 G5 K5 : Option Addr) (n5 c5 g5 cg5 k5 cb5 : Nat) (ty : Tri3) (L : Option Addr) (lm : Nat) (dl : List Int) (wx : World) : Prop where
  below : Below w.heap.size w wx
  arg : Box wx w.heap.size 53 #[.slice A n c, .slice G ng cg, .slice K nb cb]
  xb : Box wx gX 53 #[.slice A3 n3 c3, .slice G3 g3 cg3, .slice K3 k3 cb3]
  yb : Box wx gY 53 #[.slice A5 n5 c5, .slice G5 g5 cg5, .slice K5 k5 cb5]
  nbx : Box wx gN 53 #[.slice none 0 0, .slice none 0 0, .slice none 0 0]
  tri : TriIn wx A G K n c ng nb zs g b
  xv : TriV wx A3 G3 K3 n3 c3 g3 k3 tx
  yv : TriV wx A5 G5 K5 n5 c5 g5 k5 ty
  dl : Arr .i64 wx wx.heap.size L lm dl
  hlm : lm ≤ maxLen
section
variable {w wx wx' : World} {gX gY gN : Nat} {A G K : Option Addr} {n c ng cg nb cb : Nat} {zs g b : List Int} {A3 G3 K3 : Option Addr} {n3 c3 g3 cg3 k3 cb3 : Nat} {tx : Tri3} {A5 G5 K5 : Option Addr} {n5 c5 g5 cg5 k5 cb5 : Nat} {ty : Tri3} {L : Option Addr} {lm : Nat} {dl : List Int}
theorem TtI.next (h : TtI w gX gY gN A G K n c ng cg nb cb zs g b A3 G3 K3 n3 c3 g3 cg3 k3 cb3 tx A5 G5 K5 n5 c5 g5 cg5 k5 cb5 ty L lm dl wx) (hb : Below wx.heap.size wx wx') : TtI w gX gY gN A G K n c ng cg nb cb zs g b A3 G3 K3 n3 c3 g3 cg3 k3 cb3 tx A5 G5 K5 n5 c5 g5 cg5 k5 cb5 ty L lm dl wx' :=
  ⟨h.below.trans (hb.mono h.below.size), h.arg.below hb h.arg.lt, h.xb.below hb h.xb.lt, h.yb.below hb h.yb.lt, h.nbx.below hb h.nbx.lt, h.tri.next hb, h.xv.next hb, h.yv.next hb, h.dl.later hb, h.hlm⟩
theorem TtI.acells (h : TtI w gX gY gN A G K n c ng cg nb cb zs g b A3 G3 K3 n3 c3 g3 cg3 k3 cb3 tx A5 G5 K5 n5 c5 g5 cg5 k5 cb5 ty L lm dl wx) : wx.cell? ⟨w.heap.size, 0, none⟩ = some (.slice A n c) ∧ wx.cell? ⟨w.heap.size, 1, none⟩ = some (.slice G ng cg) ∧ wx.cell? ⟨w.heap.size, 2, none⟩ = some (.slice K nb cb) := ⟨h.arg.cell 0, h.arg.cell 1, h.arg.cell 2⟩
theorem TtI.xcells (h : TtI w gX gY gN A G K n c ng cg nb cb zs g b A3 G3 K3 n3 c3 g3 cg3 k3 cb3 tx A5 G5 K5 n5 c5 g5 cg5 k5 cb5 ty L lm dl wx) : wx.cell? ⟨gX, 0, none⟩ = some (.slice A3 n3 c3) ∧ wx.cell? ⟨gX, 1, none⟩ = some (.slice G3 g3 cg3) ∧ wx.cell? ⟨gX, 2, none⟩ = some (.slice K3 k3 cb3) := ⟨h.xb.cell 0, h.xb.cell 1, h.xb.cell 2⟩
theorem TtI.ycells (h : TtI w gX gY gN A G K n c ng cg nb cb zs g b A3 G3 K3 n3 c3 g3 cg3 k3 cb3 tx A5 G5 K5 n5 c5 g5 cg5 k5 cb5 ty L lm dl wx) : wx.cell? ⟨gY, 0, none⟩ = some (.slice A5 n5 c5) ∧ wx.cell? ⟨gY, 1, none⟩ = some (.slice G5 g5 cg5) ∧ wx.cell? ⟨gY, 2, none⟩ = some (.slice K5 k5 cb5) := ⟨h.yb.cell 0, h.yb.cell 1, h.yb.cell 2⟩
theorem TtI.ncells (h : TtI w gX gY gN A G K n c ng cg nb cb zs g b A3 G3 K3 n3 c3 g3 cg3 k3 cb3 tx A5 G5 K5 n5 c5 g5 cg5 k5 cb5 ty L lm dl wx) : wx.cell? ⟨gN, 0, none⟩ = some (.slice none 0 0) ∧ wx.cell? ⟨gN, 1, none⟩ = some (.slice none 0 0) ∧ wx.cell? ⟨gN, 2, none⟩ = some (.slice none 0 0) := ⟨h.nbx.cell 0, h.nbx.cell 1, h.nbx.cell 2⟩
end
theorem doneE_wf (E : Int) (h : 0 ≤ E ∧ E ≤ 10) : (Lit.int .i64 E).wf = true := wf_i64.2 (by omega)
/-- The grey ones behind a write, as the law makes them. -/
theorem wrG_no {zs g b : List Int} {a z : Int} (h : TriOk (nxOf zs) (livesI zs) g b) (hfit : ∀ y ∈ livesI zs, 0 ≤ y ∧ y < 256) (hc : ¬ (0 ≤ z ∧ a ∈ b ∧ z ∉ b)) : risingTo g 256 = writeG a z g b := by
  unfold writeG
  rw [if_neg (fun h => hc ⟨h.2.1, h.1, h.2.2.2⟩)]
  exact rise_ext (risingTo_rises _ _) h.gr fun x => by
    rw [risingTo_mem]
    exact ⟨fun h => h.1, fun hx => ⟨hx, hfit x (h.gl x hx)⟩⟩
theorem wrG_yes {zs g b : List Int} {a z : Int} (h : TriOk (nxOf zs) (livesI zs) g b) (hfit : ∀ y ∈ livesI zs, 0 ≤ y ∧ y < 256) (h0 : 0 ≤ z) (ha : a ∈ b) (hb : z ∉ b) : risingTo (g ++ [z]) 256 = writeG a z g b := by
  unfold writeG
  by_cases hg : z ∈ g
  · rw [if_neg (fun h => h.2.2.1 hg)]
    refine rise_ext (risingTo_rises _ _) h.gr fun x => ?_
    rw [risingTo_mem, List.mem_append, List.mem_singleton]
    constructor
    · rintro ⟨h1, _⟩
      rcases h1 with h1 | h1
      · exact h1
      · rw [h1]; exact hg
    · exact fun hx => ⟨.inl hx, hfit x (h.gl x hx)⟩
  · rw [if_pos ⟨ha, h0, hg, hb⟩]

set_option maxHeartbeats 400000 in
theorem risingH_any (A : Option Addr) (n c : Nat) (xs : List Int) (w : World) (hn : n ≤ maxLen) (ha : Arr .i64 w w.heap.size A n xs) :
    Calls Try.prog 14 #[.slice A n c] w fun e w' => ∃ A' c', e = .returned (.slice A' (risingTo xs 256).length c') ∧ Below w.heap.size w w' ∧ Arr .i64 w' w'.heap.size A' (risingTo xs 256).length (risingTo xs 256) ∧ High w.heap.size A' (risingTo xs 256).length := by
  have HA := Lib.hid ha
  have HN := Lib.hid hn
  clear ha hn
  go_enter Try.func14, Try.ntmps14
  go_wp2
  go_loopw [3, 5] (fun v i wr => ∃ j : Nat, j ≤ 256 ∧ i = .int .i64 j ∧ Hid (Own .i64 3 wr w.heap.size v (risingTo xs j)) ∧ Hid (Below w.heap.size w wr)) (fun _ i _ => 256 - (intOf i).toNat)
  case atStart => exact ⟨0, by omega, rfl, by rw [risingTo_zero]; exact Own.nil, Below.refl _ _⟩
  case round =>
    obtain ⟨j, hj, rfl, hO, hB⟩ := hrel
    by_cases hlt : j < 256
    · have HI := Lib.hid (inR_any A n c _ (j : Int) xs wr HN.out (HA.out.below hB.out (Nat.le_refl _)))
      have c1 : ((j : Int) < 256) = True := eq_true (by omega)
      by_cases hm : (j : Int) ∈ xs
      · rw [show decide ((j : Int) ∈ xs) = true by simpa using hm] at HI
        obtain ⟨v', w4, hrun, hO', hB'⟩ := hO.out.push (P := Try.prog) (t := 23) (ty := 23) Try.underlying23 intI_info (by omega) (x := (j : Int)) (wf_i64.2 (by omega)) (by have := risingTo_len xs j; omega) hB.out.size
        rw [← risingTo_yes hm] at hO'
        have HR := Lib.hid hrun
        have HO := Lib.hid hO'
        have HB := Lib.hid (hB.out.trans hB')
        clear hrun hO' hB' hO hB hm
        go_wp2_with fail
        refine HI.out.mono ?_
        rintro e w' ⟨rfl, rfl⟩
        go_wp2_with (at_builtin; refine wpList_append_run rfl (.tmp 11) (.tmp 13) 23 rfl rfl rfl HR.out ?_)
        go_roundw
        case rel => exact ⟨j + 1, by omega, by go_num, HO.out, HB.out⟩
        case measure => simp [intOf]; omega
      · rw [show decide ((j : Int) ∈ xs) = false by simpa using hm] at HI
        have hO1 := hO.out
        rw [← risingTo_no hm] at hO1
        have HO := Lib.hid hO1
        clear hO1 hO hm
        go_wp2_with fail
        refine HI.out.mono ?_
        rintro e w' ⟨rfl, rfl⟩
        go_wp2
        go_roundw
        case rel => exact ⟨j + 1, by omega, by go_num, HO.out, hB.out⟩
        case measure => simp [intOf]; omega
    · obtain rfl : j = 256 := by omega
      obtain ⟨A', c', rfl, _, hA'⟩ := hO.out.arr
      have HA' := Lib.hid hA'
      have HH := Lib.hid hO.out.high
      clear hA' hO
      obtain ⟨m, hm⟩ : ∃ m, (risingTo xs 256).length = m := ⟨_, rfl⟩
      rw [hm] at HA' HH ⊢
      have HM := Lib.hid hm
      clear hm
      go_wp2
      go_ret
      exact ⟨A', c', by rw [HM.out]; rfl, hB.out, by rw [HM.out]; exact HA'.out, by rw [HM.out]; exact HH.out⟩
theorem app_rise {b : List Int} {x : Int} : risingTo (b ++ [x]) 256 = stepB x b := rfl

end Go.Proofs.Ythdnfocemchgjaa
