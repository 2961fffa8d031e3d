/-
  Package carry: visit and words.
-/
import Derived.Test.YtjefbekdjgmmbaaCarryC
namespace Go.Proofs.Ytjefbekdjgmmbaa
open Go.RowKit

theorem placesT : MapT Try.prog .i64 .i64 77 3 3 := ⟨Try.underlying77, Try.underlying3, Try.underlying3, fun _ => by kernel_rfl⟩
theorem carryI64 : (Try.prog.info? 3).map (fun i => (i.zero, i.size, i.bytes)) = some (some (.int .i64 0), 1, 8) := by kernel_rfl
/-- A traversal in memory: the objects, their words, the order, the places. -/
structure TrV (O S : Value) (gT gp base : Nat) (ord : List Int) (v : Value) (w : World) : Prop where
  box : Box w gT 102 #[O, S, v, .map (some gp)]
  own : Own .i64 3 w base v ord
  map : MapF Try.prog .i64 .i64 3 3 w gp (ord.length + 1) (plF ord)
  lt1 : gT < base
  lt2 : gp < base
  ne : gp ≠ gT
  hb : base ≤ w.heap.size
/-- All but the traversal stays. -/
structure TrF (gT gp base : Nat) (w w' : World) : Prop where
  os : w'.os = w.os
  tape : w'.tape = w.tape
  output : w'.output = w.output
  size : w.heap.size ≤ w'.heap.size
  block : ∀ i, i < base → i ≠ gT → i ≠ gp → w'.heap[i]? = w.heap[i]?
section
variable {O S v : Value} {gT gp base : Nat} {ord : List Int} {w w' w'' : World}
theorem TrF.refl : TrF gT gp base w w := ⟨rfl, rfl, rfl, Nat.le_refl _, fun _ _ _ _ => rfl⟩
theorem TrF.trans (h : TrF gT gp base w w') (h' : TrF gT gp base w' w'') : TrF gT gp base w w'' :=
  ⟨h'.os.trans h.os, h'.tape.trans h.tape, h'.output.trans h.output, Nat.le_trans h.size h'.size, fun i a b c => (h'.block i a b c).trans (h.block i a b c)⟩
theorem TrF.of_below (h : Below base w w') : TrF gT gp base w w' := ⟨h.os, h.tape, h.output, h.size, fun i hi _ _ => h.block i hi⟩
theorem TrF.below (h : TrF gT gp base w w') {B : Nat} (h1 : B ≤ gT) (h2 : B ≤ gp) (h3 : B ≤ base) : Below B w w' := ⟨h.os, h.tape, h.output, h.size, fun i hi => h.block i (by omega) (by omega) (by omega)⟩
theorem Arr.trF {k : IntKind} {lo n : Nat} {A : Option Addr} {zs : List Int} (h : Arr k w base A n zs) (hi : High lo A n) (h1 : gT < lo) (h2 : gp < lo) (f : TrF gT gp base w w') : Arr k w' base A n zs :=
  ⟨h.1, h.2.1, fun hn => by
    obtain ⟨b, off, e, hb, hc⟩ := h.2.2 hn
    have := hi b off hn e
    refine ⟨b, off, e, hb, fun i hi => ?_⟩
    rw [← hc i hi]
    have hbl := f.block b hb (by omega) (by omega)
    unfold World.cell?
    rw [hbl]⟩
theorem TrV.next (h : TrV O S gT gp base ord v w) (hb : Below w.heap.size w w') : TrV O S gT gp base ord v w' :=
  ⟨h.box.below hb h.box.lt, h.own.below hb, h.map.below hb h.map.lt, h.lt1, h.lt2, h.ne, Nat.le_trans h.hb hb.size⟩
end

set_option maxRecDepth 8000 in
set_option maxHeartbeats 2000000 in
theorem visit_any (O S v : Value) (gT gp base : Nat) (zs ord : List Int) (y : Int) (w : World) (h : TrV O S gT gp base ord v w) (hy : InR zs y) (hwf : (Lit.int .i64 y).wf = true) (hl : ord.length ≤ 1000) :
    Calls Try.prog 86 #[.pointer (some ⟨gT, 0, none⟩), .int .i64 y] w fun e w' => e = .returned (.tuple #[]) ∧ ∃ v', TrV O S gT gp base (addN ord y) v' w' ∧ TrF gT gp base w w' := by
  have hlk := h.map.lookOk placesT hwf
  rw [plF_isSome] at hlk
  obtain ⟨A, c, rfl, hc, _⟩ := h.own.arr
  have q2 : w.cell? ⟨gT, 2, none⟩ = some (.slice A ord.length c) := h.box.cell 2
  have q3 : w.cell? ⟨gT, 3, none⟩ = some (.map (some gp)) := h.box.cell 3
  by_cases hin : y = -1 ∨ y ∈ ord
  · rw [decide_eq_true hin] at hlk
    have HE : Hid (addN ord y = ord) := addN_no (by rcases hin with rfl | hin; exact .inl (by decide); exact .inr hin)
    have H := Lib.hid h
    clear h hin hy hc q2
    generalize (plF ord y).getD 0 = X at *
    go_enter Try.func86, Try.ntmps86
    go_wp2
    refine bodyPost_ret (v := .tuple #[]) (by simp [results, Try.results86, go_sem]) rfl ⟨rfl, _, by rw [HE.out]; exact H.out, TrF.refl⟩
  · rw [decide_eq_false hin] at hlk
    have h1 : y ≠ -1 := fun e => hin (.inl e)
    have h2 : y ∉ ord := fun e => hin (.inr e)
    have h0 : 0 ≤ y := by
      rcases hy with rfl | hy
      · exact absurd rfl h1
      · exact hy.1
    have HE : Hid (addN ord y = ord ++ [y]) := addN_yes (by rintro (h3 | h3); omega; exact h2 h3)
    have HP : Hid (plF (ord ++ [y]) = put (plF ord) y ord.length) := plF_snoc h1 h2
    have H := Lib.hid h
    clear h hin hy h1 h2 h0
    generalize (plF ord y).getD 0 = X at *
    obtain ⟨n, hn⟩ : ∃ n, ord.length = n := ⟨_, rfl⟩
    have HN := Lib.hid hn
    rw [hn] at q2 hl HP H hc
    have hwn : (Lit.int .i64 (n : Int)).wf = true := wf_i64.2 (by omega)
    clear hn
    go_enter Try.func86, Try.ntmps86
    go_wp2_with fail
    go_still_tail 10, (by kernel_rfl)
    change wpList _ _ _ _ _ (w.drewN 1)
    have hm : MapF Try.prog .i64 .i64 3 3 (w.drewN 1) gp (n + 1) (plF ord) := by have := H.out.map; rw [HN.out] at this; exact this.drewN 1
    refine wpList_store_map placesT _ rfl _ _ _ rfl rfl rfl rfl hm (by unfold maxLen; omega) hwf hwn ?_
    intro w2 hm2 hg2
    have hb2 : Box w2 gT 102 #[O, S, .slice A n c, .map (some gp)] := Box.grown (w := w.drewN 1) H.out.box hg2 H.out.ne.symm
    have ho2 : Own .i64 3 w2 base (.slice A n c) ord := H.out.own.keepB fun i h3 h4 => hg2.block i h4 (by intro e; injection e with e; have := H.out.lt2; omega)
    obtain ⟨v', w3, hrun, ho3, hg3⟩ := ho2.pushG (P := Try.prog) (t := 23) (ty := 23) Try.underlying23 carryI64 (by omega) hwf (by rw [HN.out]; omega) (Nat.le_trans H.out.hb hg2.size)
    have hro := ho2.row
    obtain ⟨hb3, hv3⟩ := hb2.grew hg3 (fun e => by have := hro _ e; have := H.out.lt1; omega)
    obtain ⟨hm3, hv4⟩ := hm2.grew hg3 (fun e => by have := hro _ e; have := H.out.lt2; omega)
    have HNX : Hid (TrV O S gT gp base (addN ord y) v' (w3.setCell ⟨gT, 2, none⟩ v')) := by
      refine ⟨hb3.set 2 v', ?_, ?_, H.out.lt1, H.out.lt2, H.out.ne, ?_⟩
      · rw [HE.out]; exact ho3.setOff hv3 _ _
      · rw [HE.out, HP.out, List.length_append, List.length_singleton, HN.out]
        exact hm3.setOther H.out.ne.symm _ _
      · rw [size_setCell]; exact Nat.le_trans H.out.hb (Nat.le_trans hg2.size hg3.size)
    have HF : Hid (TrF gT gp base w (w3.setCell ⟨gT, 2, none⟩ v')) :=
      ⟨hg3.os.trans hg2.os, hg3.tape.trans hg2.tape, hg3.output.trans hg2.output, by rw [size_setCell]; exact Nat.le_trans hg2.size hg3.size, fun i a1 a2 a3 => by
        have hlt : i < w.heap.size := Nat.lt_of_lt_of_le a1 H.out.hb
        rw [heap_setOther _ a2]
        rw [hg3.block i (Nat.lt_of_lt_of_le hlt hg2.size) (fun e => by have := hro _ e; omega)]
        exact hg2.block i hlt (by intro e; injection e with e; exact a3 e)⟩
    have d2 : w2.cell? ⟨gT, 2, none⟩ = some (.slice A n c) := hb2.cell 2
    have e2 : w3.cell? ⟨gT, 2, none⟩ = some (.slice A n c) := hb3.cell 2
    have f2 := hb3.soft 2
    have HR := Lib.hid hrun
    obtain ⟨A', c', rfl, _, _⟩ := ho3.arr
    clear hrun hb2 hb3 hm hm2 hm3 ho2 ho3 hg2 hg3 hro hv3 hv4 H HP HE q2 q3 hlk
    generalize (ord ++ [y]).length = N' at *
    go_wp2_with (at_builtin; refine wpList_append_run rfl (.tmp 30) (.tmp 32) 23 rfl rfl rfl HR.out ?_)
    refine bodyPost_end (v := .tuple #[]) (by simp [results, Try.results86, go_sem]) rfl ⟨rfl, _, HNX.out, HF.out⟩

/-- A list of 'n' zeros whose first 'k' are those of 'L'. -/
def fillTo (L : List Int) (n k : Nat) : List Int := L.take k ++ List.replicate (n - k) 0
section
variable {L : List Int} {n k : Nat}
theorem fillTo_len (hn : L.length = n) (h : k ≤ n) : (fillTo L n k).length = n := by unfold fillTo; rw [List.length_append, List.length_take, List.length_replicate]; omega
theorem fillTo_zero : fillTo L n 0 = List.replicate n 0 := by unfold fillTo; simp
theorem fillTo_all (hn : L.length = n) : fillTo L n n = L := by unfold fillTo; rw [List.take_of_length_le (by omega)]; simp
theorem fillTo_set (hn : L.length = n) (h : k < n) : (fillTo L n k).set k (nth L k) = fillTo L n (k + 1) := by
  have hk : k < L.length := by omega
  unfold fillTo
  rw [List.set_append_right _ _ (by rw [List.length_take]; omega), List.length_take, show k - min k L.length = 0 by omega, show n - k = (n - (k + 1)) + 1 by omega, List.replicate_succ, List.set_cons_zero, List.take_succ_eq_append_getElem hk, nth_get _ _ hk, List.append_assoc]
  rfl
end
/-- What holds while words go over the order. -/
structure WdI (L : List Int) (n g : Nat) (w : World) (k : Nat) (wr : World) : Prop where
  row : Whole .i64 3 wr g (fillTo L n k)
  below : Below w.heap.size w wr
theorem words_wf {zs : List Int} (hl : zs.length ≤ 256) {x : Int} (h : 0 ≤ x ∧ x < (begins zs 0).length) : (Lit.int .i64 (atI zs x)).wf = true := by
  rw [atI_pos h.1]
  have := (begins_mem (st_mem (zs := zs) (k := x.toNat) (by omega))).2.1
  exact wf_i64.2 (by omega)

set_option maxRecDepth 8000 in
set_option maxHeartbeats 2000000 in
theorem carryWords_any (O : Value) (S D : Option Addr) (m sc n dc gT gp : Nat) (zs ord : List Int) (w : World) (hb : Box w gT 102 #[O, .slice S m sc, .slice D n dc, .map (some gp)]) (hS : Arr .i64 w w.heap.size S m (startsI zs)) (hD : Arr .i64 w w.heap.size D n ord) (hi : AllIn zs ord) (hn : n ≤ 256) (hl : zs.length ≤ 256) :
    Calls Try.prog 58 #[.pointer (some ⟨gT, 0, none⟩)] w fun e w' => ∃ g, e = .returned (.slice (some ⟨g, 0, none⟩) n n) ∧ w.heap.size ≤ g ∧ Below w.heap.size w w' ∧ Whole .i64 3 w' g (ord.map (atI zs)) := by
  have q1 : w.cell? ⟨gT, 1, none⟩ = some (.slice S m sc) := hb.cell 1
  have q2 : w.cell? ⟨gT, 2, none⟩ = some (.slice D n dc) := hb.cell 2
  have hmk := fun wx => run_make_row' (P := Try.prog) 23 3 (.int .i64 0) 8 Try.underlying23 carryI64 rfl .i64 .i64 n (by omega) (by omega) wx
  have hW : Whole .i64 3 (w.alloc (.cells (madeCells #[Value.int .i64 0] n) 3)) w.heap.size (List.replicate n 0) := by
    rw [made_replicate]
    exact whole_new .i64 3 w _ (fun z hz => by rw [List.eq_of_mem_replicate hz]; rfl)
  have bm : Below w.heap.size w (w.alloc (.cells (madeCells #[Value.int .i64 0] n) 3)) := (Below.refl _ _).alloc (Nat.le_refl _) _
  have hdl := hD.1
  have HLL : Hid ((ord.map (atI zs)).length = n) := by show _ = _; rw [List.length_map]; exact hdl
  have HI : Hid (WdI (ord.map (atI zs)) n w.heap.size w 0 (w.alloc (.cells (madeCells #[Value.int .i64 0] n) 3))) := ⟨by rw [fillTo_zero]; exact hW, bm⟩
  have HB := Lib.hid hb
  have HS := Lib.hid hS
  have HD := Lib.hid hD
  have HA := Lib.hid hi
  have HDL := Lib.hid hdl
  have b1 : (w.alloc (.cells (madeCells #[Value.int .i64 0] n) 3)).cell? ⟨gT, 2, none⟩ = some (.slice D n dc) := (bm.cell (p := ⟨gT, 2, none⟩) hb.lt).trans q2
  clear hb hS hD hi hW bm hdl
  go_enter Try.func58, Try.ntmps58
  go_wp2_with fail
  clear b1
  generalize (w.alloc (.cells (madeCells #[Value.int .i64 0] n) 3)) = W1 at *
  obtain ⟨g, hg⟩ : ∃ g, w.heap.size = g := ⟨_, rfl⟩
  have HG := Lib.hid hg
  rw [hg] at HI
  rw [hg]
  clear hmk hg
  go_loopw [17] (fun i wr => ∃ k : Nat, k ≤ n ∧ i = .int .i64 k ∧ Hid (WdI (ord.map (atI zs)) n g w k wr)) (fun i _ => n - (intOf i).toNat)
  case atStart => exact ⟨0, Nat.zero_le _, rfl, HI⟩
  case round =>
    obtain ⟨k, hkn, rfl, hI⟩ := hrel
    clear HI q1 q2
    by_cases hlt : k < n
    · have hD := HD.out.below hI.out.below (Nat.le_refl _)
      have hS := HS.out.below hI.out.below (Nat.le_refl _)
      obtain ⟨b, off, rfl, _, hc⟩ := hD.2.2 (by omega)
      have c1 := hc k hlt
      obtain ⟨j, hj, hjm⟩ := HA.out.atIn (k := k) (by have := HDL.out; omega)
      have hm := HS.out.1
      have hml : m = (begins zs 0).length := by rw [← hm]; unfold startsI; simp
      obtain ⟨b2, off2, rfl, _, hc2⟩ := hS.2.2 (by omega)
      have c2 := hc2 j (by omega)
      rw [nth_starts hjm] at c2
      rw [hj] at c1
      have hjlt : j < m := by omega
      have q1 : wr.cell? ⟨gT, 1, none⟩ = some (.slice (some ⟨b2, off2, none⟩) m sc) := (HB.out.below hI.out.below HB.out.lt).cell 1
      have hx := nth_at (zs := zs) (l := ord) (k := k) (by have := HDL.out; omega)
      rw [hj, atI_nat] at hx
      have hW2 := hI.out.row.set_ k (st zs j) (by
        have := words_wf hl (HA.out _ (nth_mem (l := ord) (j := k) (by have := HDL.out; omega)))
        rwa [hj, atI_nat] at this)
      rw [← hx, fillTo_set HLL.out hlt, hx] at hW2
      have HN : Hid (WdI (ord.map (atI zs)) n g w (k + 1) (wr.setCell ⟨g, k, none⟩ (.int .i64 (st zs j)))) := ⟨hW2, below_set hI.out.below (by rw [HG.out]; exact Nat.le_refl _) _ _⟩
      have d0 := hI.out.row.cell (j := k) (by rw [fillTo_len HLL.out (by omega)]; exact hlt)
      have f0 := hI.out.row.frozen k
      clear hI hW2 hc hc2 hD hS hj hjm hx hm hml
      generalize nth (fillTo (ord.map (atI zs)) n k) k = X at *
      generalize (st zs j : Int) = Y at *
      go_wp2
      go_roundw
      case rel => exact ⟨k + 1, by omega, by go_num, HN⟩
      case measure => simp [intOf]; omega
    · obtain rfl : k = n := by omega
      have hrow := hI.out.row
      rw [fillTo_all HLL.out] at hrow
      have HR := Lib.hid hrow
      have HBB := Lib.hid hI.out.below
      clear hI hrow
      go_wp2
      go_ret
      exact ⟨g, rfl, by rw [HG.out]; exact Nat.le_refl _, HBB.out, HR.out⟩
end Go.Proofs.Ytjefbekdjgmmbaa
