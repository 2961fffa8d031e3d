/-
  Contracts of package walk's object and Objects.
-/
import Derived.Test.YtknbbondofijeaaObjM
import Derived.Test.YtknbbondofijeaaRead2
import Derived.Test.YtknbbondofijeaaClone
import Derived.Deep.RegionHeld3
import Derived.Test.YtknbbondofijeaaObjOwn
namespace Go.Proofs.Ytknbbondofijeaa
open Go.RowKit

theorem i64_info : (Try.prog.info? 3).map (fun i => (i.zero, i.size, i.bytes)) = some (some (.int .i64 0), 1, 8) := by kernel_rfl

/-- What holds while object goes over the references. -/
structure ObjI (zs : List Int) (s : Nat) (w : World) (A : Option Addr) (n c : Nat) (A2 : Option Addr) (m c2 b N R Bd : Nat) (T : Int) (F : Bool) (i : Nat) (v : Value) (wr : World) : Prop where
  hb : Box wr w.heap.size 122 #[.slice A n c, .slice A2 m c2, .map (some b)]
  sb : Box wr (w.heap.size + 1) 98 #[.int .i64 s, .int .i64 R, .int .i64 Bd, .int .i64 T, .bool F]
  rb : Box wr (w.heap.size + 1 + 1) 69 #[.int .i64 0, .slice none 0 0, .slice none 0 0, .bool false]
  ob : Box wr (w.heap.size + 1 + 1 + 1) 69 #[.int .i64 T, v, .slice none 0 0, .bool F]
  own : Own .i64 3 wr (w.heap.size + 1 + 1 + 1 + 1) v (((refWords zs s).take i).map (fun x => (ixOf zs x).getD 0))
  below : Below w.heap.size w wr
section
variable {zs : List Int} {s : Nat} {w : World} {A : Option Addr} {n c : Nat} {A2 : Option Addr} {m c2 b N R Bd : Nat} {T : Int} {F : Bool} {i : Nat} {v v' : Value} {wr wr' : World}
theorem ObjI.next (h : ObjI zs s w A n c A2 m c2 b N R Bd T F i v wr) (hb : Below wr.heap.size wr wr') : ObjI zs s w A n c A2 m c2 b N R Bd T F i v wr' :=
  ⟨h.hb.below hb h.hb.lt, h.sb.below hb h.sb.lt, h.rb.below hb h.rb.lt, h.ob.below hb h.ob.lt, h.own.below hb, h.below.trans (hb.mono h.below.size)⟩
theorem ObjI.size (h : ObjI zs s w A n c A2 m c2 b N R Bd T F i v wr) : w.heap.size + 1 + 1 + 1 + 1 ≤ wr.heap.size := h.ob.lt
theorem ObjI.push (h : ObjI zs s w A n c A2 m c2 b N R Bd T F i v wr) (hb : Below (w.heap.size + 1 + 1 + 1 + 1) wr wr') (hO : Own .i64 3 wr' (w.heap.size + 1 + 1 + 1 + 1) v' (((refWords zs s).take (i + 1)).map (fun x => (ixOf zs x).getD 0))) :
    ObjI zs s w A n c A2 m c2 b N R Bd T F (i + 1) v' (wr'.setCell ⟨w.heap.size + 1 + 1 + 1, 1, none⟩ v') :=
  ⟨by
    have := (h.hb.below hb (by omega))
    exact (show _ = _ from by
      show ((wr'.setCell _ _).heap)[w.heap.size]? = _
      show (wr'.heap.modify (w.heap.size + 1 + 1 + 1) _)[w.heap.size]? = _
      rw [Array.getElem?_modify, if_neg (by omega)]; exact this),
   by
    have := (h.sb.below hb (by omega))
    show (wr'.heap.modify (w.heap.size + 1 + 1 + 1) _)[w.heap.size + 1]? = _
    rw [Array.getElem?_modify, if_neg (by omega)]; exact this,
   by
    have := (h.rb.below hb (by omega))
    show (wr'.heap.modify (w.heap.size + 1 + 1 + 1) _)[w.heap.size + 1 + 1]? = _
    rw [Array.getElem?_modify, if_neg (by omega)]; exact this,
   (h.ob.below hb (by omega)).set 1 v', hO.setOther (by omega) 1 v', below_set (h.below.trans (hb.mono (by omega))) (by omega) 1 v'⟩
end

set_option maxRecDepth 8000 in
set_option maxHeartbeats 4000000 in
theorem object_any (A : Option Addr) (n c : Nat) (A2 : Option Addr) (m c2 b N : Nat) (zs : List Int) (s : Nat) (w : World) (B : Nat) (ha : Arr .u64 w B A n zs) (hB : B ≤ w.heap.size) (hn : n ≤ 256) (hnc : n ≤ c) (hs : s < n) (hst : stepOk zs s = true)
    (hM : MapF Try.prog .u64 .i64 52 3 w b N (ixOf zs)) :
    Calls Try.prog 77 #[.agg #[.slice A n c, .slice A2 m c2, .map (some b)], .agg #[.int .i64 s, .int .i64 (vR (nth zs s)), .int .i64 (vB (nth zs s)), .int .i64 (vT (nth zs s)), .bool (vF (nth zs s))]] w fun e w' =>
      ∃ r, e = .returned (rawV r) ∧ Below w.heap.size w w' ∧ ObV w' w.heap.size w'.heap.size r (obOf zs s) := by
  have hl := ha.1
  obtain ⟨R, Bd, hR, hBd, f1, f2, f3, f4, f5, f6, f7, f8⟩ := spot_facts hst ha.2.1 (by omega)
  have hrl := refWords_len hst
  have hbl := bodyWords_len hst
  have hbw : bodyWords zs s = (zs.drop (s + 1 + R)).take Bd := by unfold bodyWords; rw [hR, hBd]; rfl
  rw [hR] at hrl
  rw [hBd] at hbl
  simp only [Int.toNat_natCast] at hrl hbl
  obtain ⟨D, hD, hD2⟩ := run_from (P := Try.prog) Try.underlying22 u64_size A n c (s + 1 + R) ((s : Int) + 1 + R) (by omega) (by omega) hnc
  obtain ⟨E, hE, hE2⟩ := run_upto (P := Try.prog) Try.underlying22 u64_size D (n - (s + 1 + R)) (c - (s + 1 + R)) Bd Bd rfl (by omega)
  have hA := ha.cut2 (p := s + 1 + R) (q := Bd) (by omega) hD2 hE2
  rw [← hbw] at hA
  have HC := Lib.hid (fun w B ha hB => refs_any A n c A2 m c2 b zs s w B ha hB hn hnc hs hst)
  rw [hR, hBd] at HC
  have HO : Hid (obOf zs s = (vT (nth zs s), (refWords zs s).map (fun v => (ixOf zs v).getD 0), bodyWords zs s, vF (nth zs s))) := Lib.hid rfl
  rw [hR, hBd]
  have HD := Lib.hid hD
  have HE := Lib.hid hE
  have HAB := Lib.hid hA
  have HA := Lib.hid ha
  have HM := Lib.hid hM
  have HRL := Lib.hid hrl
  have HBL := Lib.hid hbl
  clear hA hbw hrl hbl hD2 hE2 ha hst hM hD hE f8 hR hBd
  generalize vT (nth zs s) = T at *
  generalize vF (nth zs s) = F at *
  go_enter Try.func77, Try.ntmps77
  go_wp2_with fail
  have n1 := Box.new w 122 #[.slice A n c, .slice A2 m c2, .map (some b)]
  have n2 := Box.new (w.alloc (.cells #[.slice A n c, .slice A2 m c2, .map (some b)] 122)) 98 #[.int .i64 s, .int .i64 R, .int .i64 Bd, .int .i64 T, .bool F]
  have n3 := Box.new ((w.alloc (.cells #[.slice A n c, .slice A2 m c2, .map (some b)] 122)).alloc (.cells #[.int .i64 s, .int .i64 R, .int .i64 Bd, .int .i64 T, .bool F] 98)) 69 #[.int .i64 0, .slice none 0 0, .slice none 0 0, .bool false]
  have n4 := Box.new (((w.alloc (.cells #[.slice A n c, .slice A2 m c2, .map (some b)] 122)).alloc (.cells #[.int .i64 s, .int .i64 R, .int .i64 Bd, .int .i64 T, .bool F] 98)).alloc (.cells #[.int .i64 0, .slice none 0 0, .slice none 0 0, .bool false] 69)) 69 #[.int .i64 T, .slice none 0 0, .slice none 0 0, .bool F]
  have bb : Below w.heap.size w ((((w.alloc (.cells #[.slice A n c, .slice A2 m c2, .map (some b)] 122)).alloc (.cells #[.int .i64 s, .int .i64 R, .int .i64 Bd, .int .i64 T, .bool F] 98)).alloc (.cells #[.int .i64 0, .slice none 0 0, .slice none 0 0, .bool false] 69)).alloc (.cells #[.int .i64 T, .slice none 0 0, .slice none 0 0, .bool F] 69)) :=
    ((((Below.refl _ w).alloc (Nat.le_refl _) _).alloc (by simp) _).alloc (by simp; omega) _).alloc (by simp; omega) _
  have hI : ObjI zs s w A n c A2 m c2 b N R Bd T F 0 (.slice none 0 0) ((((w.alloc (.cells #[.slice A n c, .slice A2 m c2, .map (some b)] 122)).alloc (.cells #[.int .i64 s, .int .i64 R, .int .i64 Bd, .int .i64 T, .bool F] 98)).alloc (.cells #[.int .i64 0, .slice none 0 0, .slice none 0 0, .bool false] 69)).alloc (.cells #[.int .i64 T, .slice none 0 0, .slice none 0 0, .bool F] 69)) := by
    refine ⟨((n1.alloc _).alloc _).alloc _, ?_, ?_, ?_, Own.nil, bb⟩
    · have := (n2.alloc (.cells #[.int .i64 0, .slice none 0 0, .slice none 0 0, .bool false] 69)).alloc (.cells #[.int .i64 T, .slice none 0 0, .slice none 0 0, .bool F] 69)
      simpa using this
    · have := n3.alloc (.cells #[.int .i64 T, .slice none 0 0, .slice none 0 0, .bool F] 69)
      simpa using this
    · simpa using n4
  have HI := Lib.hid hI
  clear n1 n2 n3 n4 bb hI
  generalize ((((w.alloc (.cells #[.slice A n c, .slice A2 m c2, .map (some b)] 122)).alloc (.cells #[.int .i64 s, .int .i64 R, .int .i64 Bd, .int .i64 T, .bool F] 98)).alloc (.cells #[.int .i64 0, .slice none 0 0, .slice none 0 0, .bool false] 69)).alloc (.cells #[.int .i64 T, .slice none 0 0, .slice none 0 0, .bool F] 69)) = W at *
  refine (HC.out W B (HA.out.below HI.out.below hB) (Nat.le_trans hB HI.out.below.size)).mono ?_
  rintro e w3 ⟨D3, d3, rfl, b3, hD3⟩
  have HI3 := Lib.hid (HI.out.next b3)
  have HD3 := Lib.hid hD3
  rw [HRL.out] at HD3 ⊢
  clear b3 hD3 HC HI
  go_wp2_with fail
  go_loopw [19] (fun i wr => ∃ (k : Nat) (v : Value), k ≤ R ∧ i = .int .i64 k ∧ Hid (ObjI zs s w A n c A2 m c2 b N R Bd T F k v wr) ∧ Hid (Arr .u64 wr B D3 R (refWords zs s))) (fun i _ => R - (intOf i).toNat)
  case atStart => exact ⟨0, _, by omega, rfl, HI3, HD3⟩
  case round =>
    obtain ⟨k, v, hk, rfl, hI, hA3⟩ := hrel
    clear HI3 HD3
    by_cases hlt : k < R
    · obtain ⟨b4, o4, rfl, _, hcs⟩ := hA3.out.2.2 (by omega)
      have hc4 := hcs k hlt
      have hwf := hA3.out.2.1 (nth (refWords zs s) k) (by rw [nth_get _ _ (by have := HRL.out; omega)]; exact List.getElem_mem _)
      clear hcs
      have hM := HM.out.below hI.out.below HM.out.lt
      have hlk := hM.look mapT hwf
      have hwv := hM.wf mapT hwf
      have htk : (refWords zs s).take (k + 1) = (refWords zs s).take k ++ [nth (refWords zs s) k] := by
        rw [nth_get _ _ (by have := HRL.out; omega), List.take_succ_eq_append_getElem]
      have hlen : (((refWords zs s).take k).map (fun x => (ixOf zs x).getD 0)).length ≤ 256 := by simp; omega
      obtain ⟨v', w4, hrun, hO', hB'⟩ := hI.out.own.push (P := Try.prog) (t := 23) (ty := 23) Try.underlying23 i64_info (by omega) hwv (by omega) hI.out.size
      have hO'' : Own .i64 3 w4 (w.heap.size + 1 + 1 + 1 + 1) v' (((refWords zs s).take (k + 1)).map (fun x => (ixOf zs x).getD 0)) := by
        rw [htk, List.map_append]; exact hO'
      obtain ⟨A5, c5, rfl, _, _⟩ := hO''.arr
      have hN := hI.out.push hB' hO''
      have hAN := (hA3.out.below hB' (by have := hB; omega))
      have o1 : wr.cell? ⟨w.heap.size + 1 + 1 + 1, 1, none⟩ = some v := hI.out.ob.cell 1
      have o2 : wr.cell? ⟨w.heap.size, 2, none⟩ = some (.map (some b)) := hI.out.hb.cell 2
      have hob4 := hI.out.ob.below hB' (by omega)
      have o3 : w4.cell? ⟨w.heap.size + 1 + 1 + 1, 1, none⟩ = some v := hob4.cell 1
      have o5 := hob4.soft 1
      have HN := Lib.hid hN
      have HAN := Lib.hid (hAN.below (below_set (Below.refl B w4) (g := w.heap.size + 1 + 1 + 1) (by omega) 1 (.slice A5 (((refWords zs s).take (k + 1)).map (fun x => (ixOf zs x).getD 0)).length c5)) (Nat.le_refl _))
      have HR := Lib.hid hrun
      generalize (((refWords zs s).take (k + 1)).map (fun x => (ixOf zs x).getD 0)).length = L5 at *
      clear hwf hM hwv htk hlen hrun hO' hO'' hN hAN hob4 hB' hI hA3
      generalize (ixOf zs (nth (refWords zs s) k)).getD 0 = V at *
      generalize nth (refWords zs s) k = X at *
      go_wp2_with (at_builtin; refine wpList_append_run rfl (.tmp 24) (.tmp 29) 23 rfl rfl rfl HR.out ?_)
      go_roundw
      case rel => exact ⟨k + 1, _, by omega, by go_num, HN, HAN⟩
      case measure => simp [intOf]; omega
    · obtain rfl : k = R := by omega
      have hO := hI.out.own
      rw [List.take_of_length_le (by have := HRL.out; omega)] at hO
      obtain ⟨A5, c5, rfl, hc5, hA5⟩ := hO.arr
      rw [show (((refWords zs s)).map (fun x => (ixOf zs x).getD 0)).length = k by simp [HRL.out]] at hO hI hc5 hA5
      have H5 := Lib.hid hA5
      have H5h := Lib.hid hO.high
      have q0 : wr.cell? ⟨w.heap.size, 0, none⟩ = some (.slice A n c) := hI.out.hb.cell 0
      have q1 : wr.cell? ⟨w.heap.size + 1, 0, none⟩ = some (.int .i64 s) := hI.out.sb.cell 0
      have q2 : wr.cell? ⟨w.heap.size + 1, 1, none⟩ = some (.int .i64 k) := hI.out.sb.cell 1
      have q3 : wr.cell? ⟨w.heap.size + 1, 2, none⟩ = some (.int .i64 Bd) := hI.out.sb.cell 2
      have hAb := HAB.out.below hI.out.below hB
      have HAB2 := Lib.hid (hAb.more (Nat.le_trans hB hI.out.below.size))
      have hsz := hI.out.size
      have HOB := Lib.hid hI.out.ob
      have hD := HD.out
      have hE := HE.out
      have g1 : IntKind.i64.wrap ((s : Int) + 1) = s + 1 := IntWalk.i64_in _ (by omega)
      have g2 : IntKind.i64.wrap ((s : Int) + 1 + k) = s + 1 + k := IntWalk.i64_in _ (by omega)
      clear hA3 hO hA5 hAb
      go_wp2_with fail
      go_region_held3 (fun w' => w'.cell? ⟨w.heap.size, 0, none⟩ = some (.slice A n c) ∧ w'.cell? ⟨w.heap.size + 1, 0, none⟩ = some (.int .i64 s) ∧ w'.cell? ⟨w.heap.size + 1, 1, none⟩ = some (.int .i64 k) ∧ w'.cell? ⟨w.heap.size + 1, 2, none⟩ = some (.int .i64 Bd))
        (first
          | go_keep
          | exact ⟨(HB6.out.cell (p := ⟨w.heap.size, 0, none⟩) (by simp; omega)).trans q0, (HB6.out.cell (p := ⟨w.heap.size + 1, 0, none⟩) (by simp; omega)).trans q1, (HB6.out.cell (p := ⟨w.heap.size + 1, 1, none⟩) (by simp; omega)).trans q2, (HB6.out.cell (p := ⟨w.heap.size + 1, 2, none⟩) (by simp; omega)).trans q3⟩
          | exact ⟨(cell_setOther w6 (by omega) 2 _ _).trans ((HB6.out.cell (p := ⟨w.heap.size, 0, none⟩) (by simp; omega)).trans q0), (cell_setOther w6 (by omega) 2 _ _).trans ((HB6.out.cell (p := ⟨w.heap.size + 1, 0, none⟩) (by simp; omega)).trans q1), (cell_setOther w6 (by omega) 2 _ _).trans ((HB6.out.cell (p := ⟨w.heap.size + 1, 1, none⟩) (by simp; omega)).trans q2), (cell_setOther w6 (by omega) 2 _ _).trans ((HB6.out.cell (p := ⟨w.heap.size + 1, 2, none⟩) (by simp; omega)).trans q3)⟩)
        (first
          | (go_at_call 79; refine (slicesClone_any E Bd (c - (s + 1 + k)) (bodyWords zs s) _ ?_ ?_).mono ?_; (omega); (exact HAB2.out); rintro e w6 ⟨A6, c6, rfl, hO6, hB6⟩; have hB6 := below_of_drew hB6; have HB6 := Lib.hid hB6; have ho6 := HOB.out.below (w' := w6) hB6 (by simp; omega); have x6 := ho6.cell 2; have y6 := ho6.soft 2; rw [show (#[.int .i64 T, .slice A5 k c5, .slice none 0 0, .bool F] : Array Value)[2]? = some (.slice none 0 0) from rfl] at x6; clear hB6 ho6))
      have hN := hI.out.next HB6.out
      have hob := hN.ob.set 2 (.slice A6 Bd c6)
      have hrb : Box (w6.setCell ⟨w.heap.size + 1 + 1 + 1, 2, none⟩ (.slice A6 Bd c6)) (w.heap.size + 1 + 1) 69 #[.int .i64 0, .slice none 0 0, .slice none 0 0, .bool false] := by
        show (w6.heap.modify (w.heap.size + 1 + 1 + 1) _)[w.heap.size + 1 + 1]? = _
        rw [Array.getElem?_modify, if_neg (by omega)]; exact hN.rb
      obtain ⟨A7, c7, hv7, hc7, hA7⟩ := hO6.arr
      injection hv7 with e1 e2 e3
      subst e1 e3
      rw [HBL.out] at hA7 hc7
      have hV : ObV (w6.setCell ⟨w.heap.size + 1 + 1 + 1, 2, none⟩ (.slice A6 Bd c6)) (w.heap.size + 1 + 1 + 1 + 1) w6.heap.size ⟨T, A5, k, c5, A6, Bd, c6, F⟩ (obOf zs s) := by
        rw [HO.out]
        exact ⟨rfl, rfl, hc5, hc7, ((H5.out.below HB6.out (Nat.le_refl _)).more HB6.out.size).setOther H5h.out (by omega) _ _, H5h.out, hA7.setOther hO6.high (by have := hI.out.size; simp; omega) _ _, hO6.high.less (by have := hI.out.size; simp; omega)⟩
      have hB7 := below_set (hN.below) (g := w.heap.size + 1 + 1 + 1) (by omega) 2 (.slice A6 Bd c6)
      have hs6 : (w6.setCell ⟨w.heap.size + 1 + 1 + 1, 2, none⟩ (.slice A6 Bd c6)).heap.size = w6.heap.size := by simp [World.setCell]
      have HV := Lib.hid hV
      have HB7 := Lib.hid hB7
      have HRB := Lib.hid hrb
      have HS6 := Lib.hid hs6
      clear hV hB7 hs6 hN x6 y6 hO6 hA7 hc7 hI q0 q1 q2 q3 hD hE g1 g2 e2 HB6
      generalize (w6.setCell ⟨w.heap.size + 1 + 1 + 1, 2, none⟩ (.slice A6 Bd c6)) = W7 at *
      have m0 : W7.cell? ⟨w.heap.size + 1 + 1 + 1, 0, none⟩ = some (.int .i64 T) := hob.cell 0
      have m1 : W7.cell? ⟨w.heap.size + 1 + 1 + 1, 1, none⟩ = some (.slice A5 k c5) := hob.cell 1
      have m2 : W7.cell? ⟨w.heap.size + 1 + 1 + 1, 2, none⟩ = some (.slice A6 Bd c6) := hob.cell 2
      have m3 : W7.cell? ⟨w.heap.size + 1 + 1 + 1, 3, none⟩ = some (.bool F) := hob.cell 3
      have r0 : W7.cell? ⟨w.heap.size + 1 + 1, 0, none⟩ = some (.int .i64 0) := hrb.cell 0
      have r1 : W7.cell? ⟨w.heap.size + 1 + 1, 1, none⟩ = some (.slice none 0 0) := hrb.cell 1
      have r2 : W7.cell? ⟨w.heap.size + 1 + 1, 2, none⟩ = some (.slice none 0 0) := hrb.cell 2
      have r3 : W7.cell? ⟨w.heap.size + 1 + 1, 3, none⟩ = some (.bool false) := hrb.cell 3
      have s0 := hrb.soft 0
      have s1 := hrb.soft 1
      have s2 := hrb.soft 2
      have s3 := hrb.soft 3
      clear hob hrb
      go_wp2
      have BY := HRB.out.set4 (.int .i64 T) (.slice A5 k c5) (.slice A6 Bd c6) (.bool F)
      have BB := below_set (below_set (below_set (below_set HB7.out (g := w.heap.size + 1 + 1) (by omega) 0 (.int .i64 T)) (g := w.heap.size + 1 + 1) (by omega) 1 (.slice A5 k c5)) (g := w.heap.size + 1 + 1) (by omega) 2 (.slice A6 Bd c6)) (g := w.heap.size + 1 + 1) (by omega) 3 (.bool F)
      have OV := (((HV.out.setOther (g := w.heap.size + 1 + 1) (by omega) 0 (.int .i64 T)).setOther (g := w.heap.size + 1 + 1) (by omega) 1 (.slice A5 k c5)).setOther (g := w.heap.size + 1 + 1) (by omega) 2 (.slice A6 Bd c6)).setOther (g := w.heap.size + 1 + 1) (by omega) 3 (.bool F)
      have hs9 : ((((W7.setCell ⟨w.heap.size + 1 + 1, 0, none⟩ (.int .i64 T)).setCell ⟨w.heap.size + 1 + 1, 1, none⟩ (.slice A5 k c5)).setCell ⟨w.heap.size + 1 + 1, 2, none⟩ (.slice A6 Bd c6)).setCell ⟨w.heap.size + 1 + 1, 3, none⟩ (.bool F)).heap.size = w6.heap.size := by rw [← HS6.out]; simp [World.setCell]
      generalize ((((W7.setCell ⟨w.heap.size + 1 + 1, 0, none⟩ (.int .i64 T)).setCell ⟨w.heap.size + 1 + 1, 1, none⟩ (.slice A5 k c5)).setCell ⟨w.heap.size + 1 + 1, 2, none⟩ (.slice A6 Bd c6)).setCell ⟨w.heap.size + 1 + 1, 3, none⟩ (.bool F)) = W9 at *
      have x0 : W9.cell? ⟨w.heap.size + 1 + 1, 0, none⟩ = some (.int .i64 T) := BY.cell 0
      have x1 : W9.cell? ⟨w.heap.size + 1 + 1, 1, none⟩ = some (.slice A5 k c5) := BY.cell 1
      have x2 : W9.cell? ⟨w.heap.size + 1 + 1, 2, none⟩ = some (.slice A6 Bd c6) := BY.cell 2
      have x3 : W9.cell? ⟨w.heap.size + 1 + 1, 3, none⟩ = some (.bool F) := BY.cell 3
      refine bodyPost_ret (v := .agg #[.int .i64 T, .slice A5 k c5, .slice A6 Bd c6, .bool F]) (by simp [results, Try.results77, go_sem, x0, x1, x2, x3]) rfl ⟨⟨T, A5, k, c5, A6, Bd, c6, F⟩, rfl, BB, (OV.less (by omega)).more (by rw [hs9]; omega)⟩


theorem obj_info : (Try.prog.info? 69).map (fun i => (i.zero, i.size, i.bytes)) = some (some (.agg #[.int .i64 0, .slice none 0 0, .slice none 0 0, .bool false]), 4, 64) := by kernel_rfl

theorem Read_any (A : Option Addr) (n c : Nat) (zs : List Int) (w : World) (hn : n ≤ maxLen) (hnc : n ≤ c) (ha : Arr .u64 w w.heap.size A n zs) :
    Calls Try.prog 76 #[.slice A n c] w (ReadP A n c zs w) := by
  by_cases h : spErr zs = 0
  · exact read_good A n c zs w hnc ha h
  · exact read_bad1 A n c zs w hn ha h

set_option maxHeartbeats 400000 in
theorem Check_any (A : Option Addr) (n c : Nat) (zs : List Int) (w : World) (hn : n ≤ maxLen) (hnc : n ≤ c) (ha : Arr .u64 w w.heap.size A n zs) :
    Calls Try.prog 78 #[.slice A n c] w fun e w' => e = .returned (.int .i64 (arErr zs)) ∧ Below w.heap.size w w' := by
  have HR := Lib.hid (Read_any A n c zs w hn hnc ha)
  clear ha hn
  go_enter Try.func78, Try.ntmps78
  go_wp2_with fail
  refine HR.out.mono ?_
  rintro e w1 ⟨b1, h⟩
  have HB := Lib.hid b1
  clear b1 HR
  rcases h with ⟨h0, rfl⟩ | ⟨h0, A2, c2, b, rfl, _⟩
  · clear h0
    go_wp2
    go_ret
    exact ⟨rfl, HB.out.alloc HB.out.size _⟩
  · have H0 := Lib.hid h0
    clear h0
    go_wp2
    go_ret
    exact ⟨by rw [H0.out]; rfl, HB.out.alloc HB.out.size _⟩

/-- The descriptions of an arena's objects. -/
def obsOf (zs : List Int) : List Ob := (begins zs 0).map (obOf zs)
/-- What Objects answers. -/
def ObjectsP (zs : List Int) (w : World) (e : Ending) (w' : World) : Prop := ∃ A k c, e = .returned (.tuple #[.slice A k c, .int .i64 (arErr zs)]) ∧ Below w.heap.size w w' ∧ k ≤ c ∧
  ((arErr zs ≠ 0 ∧ k = 0) ∨ (arErr zs = 0 ∧ k = (begins zs 0).length ∧ ∃ raws : List Raw, ArrG rawC 4 w' w'.heap.size A k raws ∧ ∀ j, j < k → ObV w' w.heap.size w'.heap.size (nthG raws j) (obOf zs (st zs j))))

/-- What holds while Objects goes over the spots. -/
structure ObsI (zs : List Int) (w : World) (A : Option Addr) (n c : Nat) (A2 : Option Addr) (m c2 b gh g k : Nat) (raws : List Raw) (wr : World) : Prop where
  hb : Box wr gh 122 #[.slice A n c, .slice A2 m c2, .map (some b)]
  own : OwnG rawC 4 69 wr g (.slice (some ⟨g, 0, none⟩) m m) raws
  len : raws.length = m
  obs : ∀ j, j < k → ObV wr (g + 1) wr.heap.size (nthG raws j) (obOf zs (st zs j))
  spots : ArrG spotC 5 wr gh A2 m (spList zs)
  map : MapF Try.prog .u64 .i64 52 3 wr b 300 (ixOf zs)
  below : Below w.heap.size w wr
  o1 : w.heap.size ≤ gh
  o2 : b < gh
  o3 : gh < g
  o4 : g < wr.heap.size
theorem nthG_put_same {α : Type} [Inhabited α] (l : List α) (j : Nat) (a : α) (h : j < l.length) : nthG (l.set j a) j = a := by rw [nthG_get _ _ (by simpa using h)]; simp
theorem nthG_put_other {α : Type} [Inhabited α] (l : List α) {i j : Nat} (a : α) (h : i ≠ j) : nthG (l.set i a) j = nthG l j := by unfold nthG; simp [List.getD, List.getElem?_set_ne h]
section
variable {zs : List Int} {w : World} {A : Option Addr} {n c : Nat} {A2 : Option Addr} {m c2 b gh g k : Nat} {raws : List Raw} {wr wr' : World}
theorem ObsI.next (h : ObsI zs w A n c A2 m c2 b gh g k raws wr) (hb : Below wr.heap.size wr wr') : ObsI zs w A n c A2 m c2 b gh g k raws wr' :=
  ⟨h.hb.below hb h.hb.lt, h.own.below hb, h.len, fun j hj => ((h.obs j hj).below hb (Nat.le_refl _)).more hb.size, h.spots.below hb (Nat.le_of_lt h.hb.lt), h.map.below hb h.map.lt, h.below.trans (hb.mono h.below.size), h.o1, h.o2, h.o3, Nat.lt_of_lt_of_le h.o4 hb.size⟩
theorem ObsI.store (h : ObsI zs w A n c A2 m c2 b gh g k raws wr) (hk : k < m) {r : Raw} (hr : ObV wr (g + 1) wr.heap.size r (obOf zs (st zs k))) :
    ObsI zs w A n c A2 m c2 b gh g (k + 1) (raws.set k r) ((((wr.setCell ⟨g, k * 4, none⟩ (.int .i64 r.t)).setCell ⟨g, k * 4 + 1, none⟩ (.slice r.ra r.rn r.rc)).setCell ⟨g, k * 4 + 2, none⟩ (.slice r.ba r.bn r.bc)).setCell ⟨g, k * 4 + 3, none⟩ (.bool r.f)) := by
  have hs : ((((wr.setCell ⟨g, k * 4, none⟩ (.int .i64 r.t)).setCell ⟨g, k * 4 + 1, none⟩ (.slice r.ra r.rn r.rc)).setCell ⟨g, k * 4 + 2, none⟩ (.slice r.ba r.bn r.bc)).setCell ⟨g, k * 4 + 3, none⟩ (.bool r.f)).heap.size = wr.heap.size := by simp [World.setCell]
  have hb : Below g wr ((((wr.setCell ⟨g, k * 4, none⟩ (.int .i64 r.t)).setCell ⟨g, k * 4 + 1, none⟩ (.slice r.ra r.rn r.rc)).setCell ⟨g, k * 4 + 2, none⟩ (.slice r.ba r.bn r.bc)).setCell ⟨g, k * 4 + 3, none⟩ (.bool r.f)) := below_set4 (Below.refl _ _) (Nat.le_refl _) _ _ _ _ _ _ _ _
  have hl := h.len
  have o1 := h.o1
  have o2 := h.o2
  have o3 := h.o3
  refine ⟨h.hb.below hb h.o3, h.own.put4 k r (by omega), by simpa using h.len, fun j hj => ?_, h.spots.below hb (by omega), h.map.below hb (by omega), h.below.trans (hb.mono (by omega)), h.o1, h.o2, h.o3, by rw [hs]; exact h.o4⟩
  rw [hs]
  rcases Nat.lt_succ_iff_lt_or_eq.1 hj with hj | hj
  · rw [nthG_put_other _ _ (by omega)]
    exact (h.obs j hj).setOther4 (by omega) _ _ _ _ _ _ _ _
  · subst hj
    rw [nthG_put_same _ _ _ (by omega)]
    exact hr.setOther4 (by omega) _ _ _ _ _ _ _ _
end

end Go.Proofs.Ytknbbondofijeaa
