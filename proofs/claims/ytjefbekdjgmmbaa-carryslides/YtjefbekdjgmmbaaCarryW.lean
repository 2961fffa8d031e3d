/-
  Package carry: copies.
-/
import Derived.Test.YtjefbekdjgmmbaaCarryV
import Derived.Test.YtjefbekdjgmmbaaLater
import Derived.Test.YtjefbekdjgmmbaaRefForm
namespace Go.Proofs.Ytjefbekdjgmmbaa
open Go.RowKit

theorem OwnG.keepAt {α : Type} {enc : α → List Value} {size : Nat} {e : TypeId} {w w' : World} {base g n c : Nat} {l : List α} (h : OwnG enc size e w base (.slice (some ⟨g, 0, none⟩) n c) l) (hb : w'.heap[g]? = w.heap[g]?) : OwnG enc size e w' base (.slice (some ⟨g, 0, none⟩) n c) l := by
  obtain ⟨hl, h2⟩ := h
  refine ⟨hl, h2.imp id ?_⟩
  rintro ⟨g', cap, cur, hv, hg, hh, r⟩
  refine ⟨g', cap, cur, hv, hg, ?_, r⟩
  injection hv with e1
  injection e1 with e1
  injection e1 with e1
  subst e1
  rw [hb]; exact hh
/-- What holds while copies goes over the order: 'k' objects are described. -/
structure CpI (zs ord : List Int) (g n : Nat) (w : World) (k : Nat) (cur : List Raw) (wr : World) : Prop where
  own : OwnG rawC 4 41 wr g (.slice (some ⟨g, 0, none⟩) n n) cur
  len : cur.length = n
  obs : ∀ j, j < k → ObV wr 0 wr.heap.size (nthG cur j) (obX zs ord (nth ord j)) ∧ Off (some g) (nthG cur j).ra (nthG cur j).rn ∧ Off (some g) (nthG cur j).ba (nthG cur j).bn
  below : Below w.heap.size w wr
  lt : g < wr.heap.size
/-- .. while it goes over the references of object 'k': 'q' of them are in. -/
structure CqI (ord refs : List Int) (g n bk k : Nat) (cur : List Raw) (r : Raw) (wb : World) (q : Nat) (A : Option Addr) (c : Nat) (wx : World) : Prop where
  own : OwnG rawC 4 41 wx g (.slice (some ⟨g, 0, none⟩) n n) (cur.set k { r with ra := A, rn := q, rc := c })
  row : Own .i64 3 wx bk (.slice A q c) ((refs.take q).map (plI ord))
  fr : TrF g g bk wb wx
  hb : bk ≤ wx.heap.size
  lt : g < bk
section
variable {ord refs : List Int} {g n bk k : Nat} {cur : List Raw} {r : Raw} {wb wx w8 : World} {q : Nat} {A A' : Option Addr} {c c' : Nat}
theorem CqI.off (h : CqI ord refs g n bk k cur r wb q A c wx) : (Value.slice A q c).ownBlock ≠ some g := fun e => by
  have h1 := h.row.row _ e
  have h2 := h.lt
  omega
theorem CqI.next (h : CqI ord refs g n bk k cur r wb q A c wx) (hk : k < cur.length) (hO : Own .i64 3 w8 bk (.slice A' (q + 1) c') ((refs.take (q + 1)).map (plI ord))) (hG : Grew (wx.drewN 1) (.slice A q c) w8 (.slice A' (q + 1) c')) :
    CqI ord refs g n bk k cur r wb (q + 1) A' c' (w8.setCell ⟨g, k * 4 + 1, none⟩ (.slice A' (q + 1) c')) := by
  have hg8 : w8.heap[g]? = wx.heap[g]? := hG.block g (Nat.lt_of_lt_of_le h.lt h.hb) h.off
  have ho8 := h.own.keepAt hg8
  have hn : nthG (cur.set k { r with ra := A, rn := q, rc := c }) k = { r with ra := A, rn := q, rc := c } := nthG_put_same _ _ _ hk
  have ho9 := ho8.setOne k 1 { r with ra := A', rn := q + 1, rc := c' } (.slice A' (q + 1) c') (by simpa using hk) (by omega) (by rw [hn]; rfl)
  rw [List.set_set] at ho9
  refine ⟨ho9, hO.setOff (fun e => by have h1 := hO.row _ e; have h2 := h.lt; omega) _ _, ⟨hG.os.trans h.fr.os, hG.tape.trans h.fr.tape, hG.output.trans h.fr.output, ?_, fun i a1 a2 a3 => ?_⟩, ?_, h.lt⟩
  · rw [size_setCell]; exact Nat.le_trans h.fr.size hG.size
  · rw [heap_setOther _ a2, ← h.fr.block i a1 a2 a3]
    exact hG.block i (Nat.lt_of_lt_of_le a1 h.hb) (fun e => by have := h.row.row _ e; omega)
  · rw [size_setCell]; exact Nat.le_trans h.hb hG.size
end
theorem refs_take {ord refs : List Int} {q : Nat} (hq : q < refs.length) : (refs.take (q + 1)).map (plI ord) = (refs.take q).map (plI ord) ++ [plI ord (nth refs q)] := by
  rw [nth_get _ _ hq, List.take_succ_eq_append_getElem hq, List.map_append]; rfl
theorem plI_wf {l : List Int} {y : Int} (hl : l.length ≤ 256) : (Lit.int .i64 (plI l y)).wf = true := by
  by_cases h : y ∈ l
  · obtain ⟨k, e, hk, _⟩ := plI_in h
    rw [e]; exact wf_i64.2 (by omega)
  · rw [plI_out h]; decide

set_option maxRecDepth 8000 in
set_option maxHeartbeats 4000000 in
theorem copies_any (OA D : Option Addr) (SV : Value) (m oc n dc gT gp N : Nat) (raws : List Raw) (zs ord : List Int) (w : World) (hb : Box w gT 102 #[.slice OA m oc, SV, .slice D n dc, .map (some gp)]) (hO : ArrG rawC 4 w w.heap.size OA m raws)
    (hV : ∀ j, j < m → ObV w 0 w.heap.size (nthG raws j) (obOf zs (st zs j))) (hM : MapF Try.prog .i64 .i64 3 3 w gp N (plF ord)) (hD : Arr .i64 w w.heap.size D n ord) (hi : AllIn zs ord) (hm : m = (begins zs 0).length) (hn : n ≤ 256) (hl : zs.length ≤ 256)
    (hcl : ∀ x ∈ ord, ∀ r ∈ refsX zs (st zs x.toNat), InR zs r ∧ (r = -1 ∨ r ∈ ord)) (hz : ∀ z ∈ zs, (Lit.int .u64 z).wf = true) :
    Calls Try.prog 57 #[.pointer (some ⟨gT, 0, none⟩)] w fun e w' => ∃ A c raws', e = .returned (.slice A n c) ∧ Below w.heap.size w w' ∧ ObsAt w' 0 w'.heap.size A n raws' (ord.map (obX zs ord)) ∧ ∀ j, j < n → (nthG raws' j).rn ≤ maxLen ∧ (nthG raws' j).bn ≤ maxLen := by
  have q2 : w.cell? ⟨gT, 2, none⟩ = some (.slice D n dc) := hb.cell 2
  have hdl := hD.1
  obtain ⟨w2, hmk, hO2, hb2, hlt2⟩ := run_make_raws (P := Try.prog) (t := 24) Try.underlying24 obj_info (by omega) n (by omega) w
  have HI : Hid (CpI zs ord w.heap.size n w 0 (List.replicate n zeroRaw) w2) := ⟨hO2, by simp, fun j hj => absurd hj (by omega), hb2, hlt2⟩
  have HB := Lib.hid hb
  have HO := Lib.hid hO
  have HV := Lib.hid hV
  have HM := Lib.hid hM
  have HD := Lib.hid hD
  have HA := Lib.hid hi
  have HDL := Lib.hid hdl
  have HMM := Lib.hid hm
  have HCL := Lib.hid hcl
  have HZ := Lib.hid hz
  have b1 : w2.cell? ⟨gT, 2, none⟩ = some (.slice D n dc) := (hb2.cell (p := ⟨gT, 2, none⟩) hb.lt).trans q2
  clear hb hO hV hM hD hi hdl hm hcl hz hO2 hb2 hlt2
  go_enter Try.func57, Try.ntmps57
  go_wp2_with fail
  clear b1 hmk
  obtain ⟨g, hg⟩ : ∃ g, w.heap.size = g := ⟨_, rfl⟩
  have HG := Lib.hid hg
  rw [hg] at HI
  rw [hg]
  clear hg
  go_loopw [20] (fun i wr => ∃ (k : Nat) (cur : List Raw), k ≤ n ∧ i = .int .i64 k ∧ Hid (CpI zs ord g n w k cur wr)) (fun i _ => n - (intOf i).toNat)
  case atStart => exact ⟨0, _, Nat.zero_le _, rfl, HI⟩
  case round =>
    obtain ⟨k, cur, hkn, rfl, hI⟩ := hrel
    clear HI q2
    by_cases hlt : k < n
    · obtain ⟨j, hj, hjm⟩ := HA.out.atIn (k := k) (by have := HDL.out; omega)
      have hjlt : j < m := by have := HMM.out; omega
      obtain ⟨bd, od, rfl, _, hcd⟩ := (HD.out.below hI.out.below (Nat.le_refl _)).2.2 (by omega)
      have c1 := hcd k hlt
      rw [hj] at c1
      obtain ⟨bo, oo, rfl, _, x0, x1, x2, x3⟩ := (HO.out.below hI.out.below (Nat.le_refl _)).raw hjlt
      have hVj := ((HV.out j hjlt).below hI.out.below (Nat.le_refl _))
      have q0 : wr.cell? ⟨gT, 0, none⟩ = some (.slice (some ⟨bo, oo, none⟩) m oc) := (HB.out.below hI.out.below HB.out.lt).cell 0
      have hXW : obX zs ord (nth ord k) = (vT (nth zs (st zs j)), (refsX zs (st zs j)).map (plI ord), bodyWords zs (st zs j), false) := by rw [hj]; rfl
      have HX := Lib.hid hXW
      have HCJ := Lib.hid (HCL.out (nth ord k) (nth_mem (by have := HDL.out; omega)))
      rw [hj, Int.toNat_natCast] at HCJ
      clear hXW hcd
      obtain ⟨r, hr⟩ : ∃ r, nthG raws j = r := ⟨_, rfl⟩
      rw [hr] at hVj x0 x1 x2 x3
      clear hr
      have htag : r.t = vT (nth zs (st zs j)) := hVj.tag
      have hrefs : Arr .i64 wr w.heap.size r.ra r.rn (refsX zs (st zs j)) := hVj.refs
      have hbody : Arr .u64 wr w.heap.size r.ba r.bn (bodyWords zs (st zs j)) := hVj.body
      have hbcap := hVj.bcap
      have hRL := hrefs.1
      have HRE := Lib.hid hrefs
      have HBO := Lib.hid hbody
      have HTG := Lib.hid htag
      have HBC := Lib.hid hbcap
      have hR256 : r.rn ≤ 256 := by
        rw [← hRL]
        unfold refsX refWords
        simp only [List.length_map, List.length_take, List.length_drop]
        omega
      have HRL := Lib.hid hRL
      clear hVj htag hrefs hbody hbcap hRL
      generalize refsX zs (st zs j) = refs at *
      generalize bodyWords zs (st zs j) = body at *
      generalize vT (nth zs (st zs j)) = T0 at *
      obtain ⟨T, ra, rn, rc, ba, bn, bc, fr⟩ := r
      simp only at x0 x1 x2 x3 HRE HBO HTG HBC HRL hR256
      have hO4 := hI.out.own.put4 k ⟨T, none, 0, 0, ba, bn, bc, false⟩ (by have := hI.out.len; omega)
      obtain ⟨⟨d0, d1, d2, d3⟩, hfz⟩ := hI.out.own.cells4 (j := k) (by rw [hI.out.len]; exact hlt)
      have z0 : wr.frozen? ⟨g, k * 4, none⟩ = false := hfz 0 (by omega)
      have z1 := hfz 1 (by omega)
      have z2 := hfz 2 (by omega)
      have z3 := hfz 3 (by omega)
      have hI5 := hI.out
      have hgl := hI.out.lt
      have hne : wr.heap.size ≠ g := by omega
      have hs4 : ((((wr.setCell ⟨g, k * 4, none⟩ (.int .i64 T)).setCell ⟨g, k * 4 + 1, none⟩ (.slice none 0 0)).setCell ⟨g, k * 4 + 2, none⟩ (.slice ba bn bc)).setCell ⟨g, k * 4 + 3, none⟩ (.bool false)).heap.size = wr.heap.size := by simp [World.setCell]
      have ba2 := (Below.refl _ ((((wr.setCell ⟨g, k * 4, none⟩ (.int .i64 T)).setCell ⟨g, k * 4 + 1, none⟩ (.slice none 0 0)).setCell ⟨g, k * 4 + 2, none⟩ (.slice ba bn bc)).setCell ⟨g, k * 4 + 3, none⟩ (.bool false))).alloc (Nat.le_refl _) (.cells #[.int .i64 T, .slice ra rn rc, .slice ba bn bc, .bool fr] 41)
      have hsz : (((((wr.setCell ⟨g, k * 4, none⟩ (.int .i64 T)).setCell ⟨g, k * 4 + 1, none⟩ (.slice none 0 0)).setCell ⟨g, k * 4 + 2, none⟩ (.slice ba bn bc)).setCell ⟨g, k * 4 + 3, none⟩ (.bool false)).alloc (.cells #[.int .i64 T, .slice ra rn rc, .slice ba bn bc, .bool fr] 41)).heap.size = wr.heap.size + 1 := by rw [← hs4]; simp
      have HQ0 : Hid (CqI ord refs g n wr.heap.size k cur ⟨T, none, 0, 0, ba, bn, bc, false⟩ wr 0 none 0 (((((wr.setCell ⟨g, k * 4, none⟩ (.int .i64 T)).setCell ⟨g, k * 4 + 1, none⟩ (.slice none 0 0)).setCell ⟨g, k * 4 + 2, none⟩ (.slice ba bn bc)).setCell ⟨g, k * 4 + 3, none⟩ (.bool false)).alloc (.cells #[.int .i64 T, .slice ra rn rc, .slice ba bn bc, .bool fr] 41))) := by
        refine ⟨hO4.below ba2, Own.nil, ⟨rfl, rfl, rfl, by rw [hsz]; omega, fun i a1 a2 _ => ?_⟩, by rw [hsz]; omega, hgl⟩
        rw [ba2.block i (by rw [hs4]; exact a1), heap_setOther _ a2, heap_setOther _ a2, heap_setOther _ a2, heap_setOther _ a2]
      clear hO4 hfz ba2 hI5 hsz hne hs4
      generalize (nthG cur k).t = t0 at *
      generalize (nthG cur k).f = t1 at *
      go_wp2_with fail
      clear x0 x1 x2 x3 c1 d0 d1 d2 d3 z0 z1 z2 z3 q0
      generalize hWN : (((((wr.setCell ⟨g, k * 4, none⟩ (.int .i64 T)).setCell ⟨g, k * 4 + 1, none⟩ (.slice none 0 0)).setCell ⟨g, k * 4 + 2, none⟩ (.slice ba bn bc)).setCell ⟨g, k * 4 + 3, none⟩ (.bool false)).alloc (.cells #[.int .i64 T, .slice ra rn rc, .slice ba bn bc, .bool fr] 41)) = W4 at *
      clear hWN
      generalize wr = W0 at *
      go_loopw [43] (fun i wx => ∃ (q : Nat) (A : Option Addr) (c : Nat), q ≤ rn ∧ i = .int .i64 q ∧ Hid (CqI ord refs g n W0.heap.size k cur ⟨T, none, 0, 0, ba, bn, bc, false⟩ W0 q A c wx)) (fun i _ => rn - (intOf i).toNat)
      case atStart => exact ⟨0, _, _, Nat.zero_le _, rfl, HQ0⟩
      case round =>
        obtain ⟨q, A, c, hqr, rfl, hJ⟩ := hrel
        clear HQ0
        by_cases hlq : q < rn
        · have hbI : Below w.heap.size w wr := hI.out.below.trans (hJ.out.fr.below (by rw [HG.out]; exact Nat.le_refl _) (by rw [HG.out]; exact Nat.le_refl _) hI.out.below.size)
          obtain ⟨b6, o6, rfl, _, hc6⟩ := (HRE.out.below (hJ.out.fr.below (B := w.heap.size) (by rw [HG.out]; exact Nat.le_refl _) (by rw [HG.out]; exact Nat.le_refl _) hI.out.below.size) (Nat.le_refl _)).2.2 (by omega)
          have c6 := hc6 q hlq
          have hql : q < refs.length := by have := HRL.out; omega
          obtain ⟨hin, hor⟩ := HCJ.out (nth refs q) (nth_mem hql)
          have hwf := hin.wf hl
          have hor6 : ord.length ≤ 256 := by have := HDL.out; omega
          have hmap := HM.out.below hbI HM.out.lt
          have HLK : Hid (∀ wx, Below w.heap.size w wx → Sem.run Try.prog (Instr.lookup 77 (.map (some gp)) (.int .i64 (nth refs q)) false) wx = .ok (.int .i64 (plI ord (nth refs q))) wx) := fun wx hb => by
            have := (HM.out.below hb HM.out.lt).look placesT hwf
            rwa [plF_ref hor] at this
          obtain ⟨v', w8, hrun, hO8, hG8⟩ := (hJ.out.row.drewN 1).pushG (P := Try.prog) (t := 23) (ty := 23) Try.underlying23 carryI64 (by omega) (plI_wf hor6) (by rw [List.length_map, List.length_take]; omega) (show W0.heap.size ≤ (wr.drewN 1).heap.size from hJ.out.hb)
          rw [← refs_take hql] at hO8
          obtain ⟨A', c', rfl, _, _⟩ := hO8.arr
          have hlen8 : ((refs.take (q + 1)).map (plI ord)).length = q + 1 := by rw [List.length_map, List.length_take]; omega
          rw [hlen8] at hO8 hG8 hrun
          have hck : k < cur.length := by have := hI.out.len; omega
          have HN := Lib.hid (hJ.out.next hck hO8 hG8)
          have hn8 : nthG (cur.set k ⟨T, A, q, c, ba, bn, bc, false⟩) k = ⟨T, A, q, c, ba, bn, bc, false⟩ := nthG_put_same _ _ _ hck
          obtain ⟨⟨_, e1, _, _⟩, _⟩ := hJ.out.own.cells4 (j := k) (by simpa using hck)
          obtain ⟨⟨_, e8, _, _⟩, hf8⟩ := (hJ.out.own.keepAt (w' := w8) (hG8.block g (Nat.lt_of_lt_of_le hJ.out.lt hJ.out.hb) hJ.out.off)).cells4 (j := k) (by simpa using hck)
          have f8 := hf8 1 (by omega)
          rw [hn8] at e1 e8
          have hbx := HB.out.below hbI HB.out.lt
          have hS0 : (wr.drewN 1).cell? ⟨g, k * 4 + 1, none⟩ = some (.slice A q c) ∧ (wr.drewN 1).cell? ⟨gT, 3, none⟩ = some (.map (some gp)) ∧ Sem.run Try.prog (Instr.lookup 77 (.map (some gp)) (.int .i64 (nth refs q)) false) (wr.drewN 1) = .ok (.int .i64 (plI ord (nth refs q))) (wr.drewN 1) := ⟨e1, hbx.cell 3, HLK.out _ (below_drewN hbI 1)⟩
          have hb1 := (Below.refl _ (wr.drewN 1)).alloc (Nat.le_refl _) (.cells #[.int .i64 (plI ord (nth refs q))] 3)
          have hbI1 := (below_drewN hbI 1).trans (hb1.mono hbI.size)
          have hS1 : ((wr.drewN 1).alloc (.cells #[.int .i64 (plI ord (nth refs q))] 3)).cell? ⟨g, k * 4 + 1, none⟩ = some (.slice A q c) ∧ ((wr.drewN 1).alloc (.cells #[.int .i64 (plI ord (nth refs q))] 3)).cell? ⟨gT, 3, none⟩ = some (.map (some gp)) ∧ Sem.run Try.prog (Instr.lookup 77 (.map (some gp)) (.int .i64 (nth refs q)) false) ((wr.drewN 1).alloc (.cells #[.int .i64 (plI ord (nth refs q))] 3)) = .ok (.int .i64 (plI ord (nth refs q))) ((wr.drewN 1).alloc (.cells #[.int .i64 (plI ord (nth refs q))] 3)) :=
            ⟨(hb1.cell (p := ⟨g, k * 4 + 1, none⟩) (Nat.lt_of_lt_of_le hJ.out.lt hJ.out.hb)).trans e1, (HB.out.below hbI1 HB.out.lt).cell 3, HLK.out _ hbI1⟩
          have hbI8 : Below w.heap.size w w8 := (below_drewN hbI 1).trans (hG8.below hbI.size (fun b hb => by have h1 := hJ.out.row.row _ hb; have h2 := hI.out.below.size; omega))
          have hS8 : w8.cell? ⟨g, k * 4 + 1, none⟩ = some (.slice A q c) ∧ w8.cell? ⟨gT, 3, none⟩ = some (.map (some gp)) ∧ Sem.run Try.prog (Instr.lookup 77 (.map (some gp)) (.int .i64 (nth refs q)) false) w8 = .ok (.int .i64 (plI ord (nth refs q))) w8 := ⟨e8, (HB.out.below hbI8 HB.out.lt).cell 3, HLK.out _ hbI8⟩
          have HR := Lib.hid hrun
          clear hc6 hwf hmap hrun hO8 hG8 hf8 hbx hb1 hbI hbI1 hbI8 hin hor HLK hn8 hck hlen8
          generalize plI ord (nth refs q) = V at *
          generalize nth refs q = X at *
          go_wp2_with fail
          refine wp_region_Y 17 (fun w' => w'.cell? ⟨g, k * 4 + 1, none⟩ = some (.slice A q c) ∧ w'.cell? ⟨gT, 3, none⟩ = some (.map (some gp)) ∧ Sem.run Try.prog (Instr.lookup 77 (.map (some gp)) (.int .i64 X) false) w' = .ok (.int .i64 V) w') (by kernel_rfl) ?_
          change anyY _ _ _ _ _ _ _ _ _ (wr.drewN 1)
          refine anyY_pure (i := 0) (v := .slice (some ⟨g, 0, none⟩) n n) rfl rfl rfl (by kernel_rfl) (by kernel_rfl) (by kernel_rfl) (fun _ _ _ h => h) (Or.inl ⟨by rfl, fun wx _ => ?_⟩) (.inr hS0) ?_
          · go_simp
          refine anyY_pure (i := 1) (v := .int .i64 (k : Int)) rfl rfl rfl (by kernel_rfl) (by kernel_rfl) (by kernel_rfl) (fun _ _ _ h => h) (Or.inl ⟨by rfl, fun wx _ => ?_⟩) (.inr hS0) ?_
          · go_simp
          refine anyY_pure (i := 2) (v := .slice (some ⟨g, 0, none⟩) n n) rfl rfl rfl (by kernel_rfl) (by kernel_rfl) (by kernel_rfl) (fun _ _ _ h => h) (Or.inl ⟨by rfl, fun wx _ => ?_⟩) (.inr hS0) ?_
          · go_simp
          refine anyY_pure (i := 3) (v := .int .i64 (k : Int)) rfl rfl rfl (by kernel_rfl) (by kernel_rfl) (by kernel_rfl) (fun _ _ _ h => h) (Or.inl ⟨by rfl, fun wx _ => ?_⟩) (.inr hS0) ?_
          · go_simp
          refine anyY_pure (i := 4) (v := .pointer (some ⟨g, k * 4, none⟩)) rfl rfl rfl (by kernel_rfl) (by kernel_rfl) (by kernel_rfl) (fun _ _ _ h => h) (Or.inl ⟨by rfl, fun wx _ => ?_⟩) (.inr hS0) ?_
          · go_simp
          refine anyY_pure (i := 5) (v := .pointer (some ⟨g, k * 4 + 1, none⟩)) rfl rfl rfl (by kernel_rfl) (by kernel_rfl) (by kernel_rfl) (fun _ _ _ h => h) (Or.inl ⟨by rfl, fun wx _ => ?_⟩) (.inr hS0) ?_
          · go_simp
          refine anyY_take (i := 6) (v := .slice A q c) rfl rfl (by kernel_rfl) rfl (by kernel_rfl) (by kernel_rfl) (by kernel_rfl) (by kernel_rfl) (fun _ _ _ h => h) (Or.inl ⟨by rfl, fun wx hS => ?_⟩) hS0 ?_
          · obtain ⟨p1, p2, p3⟩ := hS
            go_simp
          refine anyY_pure (i := 7) (v := .pointer (some ⟨gT, 0, none⟩)) rfl rfl rfl (by kernel_rfl) (by kernel_rfl) (by kernel_rfl) (fun _ _ _ h => h) (Or.inl ⟨by rfl, fun wx _ => ?_⟩) (.inr hS0) ?_
          · go_simp
          refine anyY_pure (i := 8) (v := .pointer (some ⟨gT, 0, none⟩)) rfl rfl rfl (by kernel_rfl) (by kernel_rfl) (by kernel_rfl) (fun _ _ _ h => h) (Or.inl ⟨by rfl, fun wx _ => ?_⟩) (.inr hS0) ?_
          · go_simp
          refine anyY_pure (i := 9) (v := .pointer (some ⟨gT, 3, none⟩)) rfl rfl rfl (by kernel_rfl) (by kernel_rfl) (by kernel_rfl) (fun _ _ _ h => h) (Or.inl ⟨by rfl, fun wx _ => ?_⟩) (.inr hS0) ?_
          · go_simp
          refine anyY_take (i := 10) (v := .map (some gp)) rfl rfl (by kernel_rfl) rfl (by kernel_rfl) (by kernel_rfl) (by kernel_rfl) (by kernel_rfl) (fun _ _ _ h => h) (Or.inl ⟨by rfl, fun wx hS => ?_⟩) hS0 ?_
          · obtain ⟨p1, p2, p3⟩ := hS
            go_simp
          refine anyY_pure (i := 11) (v := .int .i64 X) rfl rfl rfl (by kernel_rfl) (by kernel_rfl) (by kernel_rfl) (fun _ _ _ h => h) (Or.inl ⟨by rfl, fun wx _ => ?_⟩) (.inr hS0) ?_
          · go_simp
          refine anyY_take (i := 12) (v := .int .i64 V) rfl rfl (by kernel_rfl) rfl (by kernel_rfl) (by kernel_rfl) (by kernel_rfl) (by kernel_rfl) (fun _ _ _ h => h) (Or.inl ⟨by rfl, fun wx hS => ?_⟩) hS0 ?_
          · obtain ⟨p1, p2, p3⟩ := hS
            go_simp
          refine anyY_only (i := 13) (by kernel_rfl) ?_
          refine wpOp_step rfl fun K' hK' => ?_
          go_simp
          refine hK' _ _ ⟨.inr (.inr hS1), ?_⟩
          clear hK'
          refine anyY_only (i := 14) (by kernel_rfl) ?_
          refine wpOp_step rfl fun K' hK' => ?_
          refine step_append_run rfl (.tmp 53) (.tmp 60) 23 rfl rfl rfl HR.out ?_
          refine hK' _ _ ⟨.inr (.inr hS8), ?_⟩
          clear hK'
          refine anyY_pure (i := 15) (v := .pointer (some ⟨g, k * 4, none⟩)) rfl rfl rfl (by kernel_rfl) (by kernel_rfl) (by kernel_rfl) (fun _ _ _ h => h) (Or.inl ⟨by rfl, fun wx _ => ?_⟩) (.inr hS8) ?_
          · go_simp
          refine anyY_pure (i := 16) (v := .pointer (some ⟨g, k * 4 + 1, none⟩)) rfl rfl rfl (by kernel_rfl) (by kernel_rfl) (by kernel_rfl) (fun _ _ _ h => h) (Or.inl ⟨by rfl, fun wx _ => ?_⟩) (.inr hS8) ?_
          · go_simp
          refine anyY_only (i := 17) (by kernel_rfl) ?_
          refine wpOp_step rfl fun K' hK' => ?_
          go_simp
          refine hK' _ _ ⟨.inr (.inl rfl), anyY_done (by kernel_rfl) ?_ _⟩
          clear hK' hS0 hS1 hS8 e1 e8 f8
          go_wp2
          go_roundw
          case rel => exact ⟨q + 1, _, _, by omega, by go_num, HN⟩
          case measure => simp [intOf]; omega
        · obtain rfl : q = rn := by omega
          have hJ' := hJ.out
          have hck : k < cur.length := by have := hI.out.len; omega
          have hbI : Below w.heap.size w wr := hI.out.below.trans (hJ'.fr.below (by rw [HG.out]; exact Nat.le_refl _) (by rw [HG.out]; exact Nat.le_refl _) hI.out.below.size)
          have HN : Hid (CpI zs ord g n w (k + 1) (cur.set k ⟨T, A, q, c, ba, bn, bc, false⟩) wr) := by
            refine ⟨hJ'.own, by rw [List.length_set]; exact hI.out.len, fun j2 hj2 => ?_, hbI, Nat.lt_of_lt_of_le hJ'.lt hJ'.hb⟩
            rcases Nat.lt_succ_iff_lt_or_eq.1 hj2 with h3 | h3
            · rw [nthG_put_other _ _ (by omega)]
              obtain ⟨o1, o2, o3⟩ := hI.out.obs j2 h3
              exact ⟨(o1.keepOff o2 o3 (fun i a1 a2 => hJ'.fr.block i a1 (fun e => a2 (by rw [e])) (fun e => a2 (by rw [e])))).more hJ'.hb, o2, o3⟩
            · subst h3
              rw [nthG_put_same _ _ _ hck, HX.out]
              have hrow := hJ'.row
              rw [List.take_of_length_le (by have := HRL.out; omega)] at hrow
              obtain ⟨A0, c0, hv0, h2, h4⟩ := hrow.arr
              rw [show (refs.map (plI ord)).length = q by rw [List.length_map]; exact HRL.out] at hv0 h2 h4
              injection hv0 with g1 g2 g3
              rw [← g1] at h4
              rw [← g3] at h2
              have hb9 := HBO.out.below (hJ'.fr.below (B := w.heap.size) (by rw [HG.out]; exact Nat.le_refl _) (by rw [HG.out]; exact Nat.le_refl _) hI.out.below.size) (Nat.le_refl _)
              exact ⟨⟨HTG.out, rfl, h2, HBC.out, h4, fun _ _ _ _ => Nat.zero_le _, hb9.more hbI.size, fun _ _ _ _ => Nat.zero_le _⟩, Off.of_high hJ'.row.high (fun b e => by injection e with e; have := hJ'.lt; omega), HBO.out.off (fun b e => by injection e with e; have := HG.out; omega)⟩
          clear hJ hJ' hbI hck
          go_wp2
          go_roundw
          case rel => exact ⟨k + 1, _, by omega, by go_num, HN⟩
          case measure => simp [intOf]; omega
    · obtain rfl : k = n := by omega
      have hcl := hI.out.len
      obtain ⟨A9, c9, hv9, _, hA9⟩ := hI.out.own.arr rawC_len
      injection hv9 with e1 e2 e3
      rw [← e1, hcl] at hA9
      have HA9 : Hid (ObsAt wr 0 wr.heap.size (some ⟨g, 0, none⟩) k cur (ord.map (obX zs ord))) := ⟨by rw [List.length_map]; exact HDL.out, hA9, fun j hj => by
        rw [nthG_map _ _ _ (by have := HDL.out; omega)]
        exact (hI.out.obs j hj).1⟩
      have HBB := Lib.hid hI.out.below
      clear hI hA9 e1 e2 e3
      go_wp2
      go_ret
      exact ⟨_, _, cur, rfl, HBB.out, HA9.out, fun j hj => by
        have h1 := HA9.out.2.2 j hj
        rw [nthG_map _ _ _ (by have := HDL.out; omega)] at h1
        have h2 := h1.refs.1
        have h3 := h1.body.1
        unfold obX refsX refWords at h2
        unfold obX bodyWords at h3
        simp only [List.length_map, List.length_take, List.length_drop] at h2 h3
        unfold maxLen
        omega⟩
end Go.Proofs.Ytjefbekdjgmmbaa
