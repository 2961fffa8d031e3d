/-
  Contract of slices.Insert, of one element, at []api.Pin.
-/
import Derived.Test.YtedndmhekjfpdaaPinH
namespace Go.Proofs.Ytedndmhekjfpdaa
open Go.RowKit

/-- What slices.Insert answers. -/
def InsertP (l : List (Int × Int)) (i : Nat) (x : Int × Int) (base : Nat) (w : World) (e : Ending) (w' : World) : Prop := ∃ A c, e = .returned (.slice A (l.length + 1) c) ∧ FullG runC 2 57 w' base A (l.length + 1) c (l.take i ++ x :: l.drop i) ∧ Below base w w'
theorem box_pin {w : World} {vb : Nat} {a b : Int} (h : Box w vb 57 #[.int .i64 a, .int .i64 b]) : ArrG runC 2 w w.heap.size (some ⟨vb, 0, none⟩) 1 [(a, b)] := by
  refine ⟨rfl, fun _ => ⟨vb, 0, rfl, h.lt, fun j hj i hi => ?_⟩⟩
  obtain rfl : j = 0 := by omega
  rw [Nat.zero_mul, Nat.zero_add, h.cell i]
  have : i = 0 ∨ i = 1 := by omega
  rcases this with rfl | rfl <;> rfl

set_option maxRecDepth 8000 in
set_option maxHeartbeats 1000000 in
theorem insertP_end (A : Option Addr) (n c vb : Nat) (a b : Int) (l : List (Int × Int)) (w : World) (base : Nat) (hO : FullG runC 2 57 w base A n c l) (hl : l.length = n) (hn : n ≤ 15) (hv : Box w vb 57 #[.int .i64 a, .int .i64 b]) (hb : base ≤ w.heap.size) :
    Calls Try.prog 43 #[.slice A n c, .int .i64 n, .slice (some ⟨vb, 0, none⟩) 1 1] w (InsertP l n (a, b) base w) := by
  have hc := hO.2.1
  obtain ⟨D0, hs0, _⟩ := run_fromG (P := Try.prog) Try.underlying54 pinS A n c n n rfl (Nat.le_refl _) hc
  obtain ⟨A', c', w', hrun, hO', hB'⟩ := hO.push1 (P := Try.prog) (t := 54) (ty := 54) Try.underlying54 pinI hn hv hb
  have e2 : l.take n ++ (a, b) :: l.drop n = l ++ [(a, b)] := by rw [List.take_of_length_le (by omega), List.drop_eq_nil_of_le (by omega)]
  unfold InsertP
  rw [e2, hl]
  have HR := Lib.hid hrun
  have HO := Lib.hid hO'
  have HB := Lib.hid hB'
  have cnn : ((n : Int) == (n : Int)) = true := by simp
  clear hrun hO' hB' hO hv e2 hc hl
  go_enter Try.func43, Try.ntmps43
  go_wp2_with (at_builtin; refine wpList_append_run rfl (.tmp 23) (.tmp 24) 54 rfl rfl rfl HR.out ?_)
  go_ret
  exact ⟨_, _, rfl, HO.out, HB.out⟩

set_option maxRecDepth 8000 in
set_option maxHeartbeats 1000000 in
theorem insertP_room (g n c i vb : Nat) (a b : Int) (l : List (Int × Int)) (w : World) (base : Nat) (cur : List Value) (hbg : base ≤ g) (hg : w.heap[g]? = some (.cells cur.toArray 57 (0, 0))) (hcm : c ≤ maxLen) (hz : cur.length = c * 2) (ht : cur.take (n * 2) = l.flatMap runC)
    (hl : l.length = n) (hn : n ≤ 15) (hi : i < n) (hroom : n + 1 ≤ c) (hv : Box w vb 57 #[.int .i64 a, .int .i64 b]) (hvg : vb ≠ g) (hAI : allI cur) :
    Calls Try.prog 43 #[.slice (some ⟨g, 0, none⟩) n c, .int .i64 i, .slice (some ⟨vb, 0, none⟩) 1 1] w (InsertP l i (a, b) base w) := by
  unfold maxLen at hcm
  obtain ⟨r, hr⟩ : ∃ r, n - i = r := ⟨_, rfl⟩
  obtain ⟨news, hnews⟩ : ∃ news, (l.drop i).flatMap runC = news := ⟨_, rfl⟩
  have hnl : news.length = r * 2 := by rw [← hnews, flat_length runC_len, List.length_drop, hl, hr]
  have hn1 : ∀ v ∈ news, v.oneCell' = true := by rw [← hnews]; exact flat_one runC_one _
  -- the cuts
  obtain ⟨ad0, hs0, hd0⟩ := run_fromS (P := Try.prog) Try.underlying54 pinS g 0 n c i i rfl (by omega) (by omega)
  obtain ⟨D1, hs1, hD1⟩ := run_uptoG (P := Try.prog) Try.underlying54 pinS (some ⟨g, 0, none⟩) n c (n + 1) ((n : Int) + 1) (by omega) hroom
  obtain rfl := hD1 g 0 rfl
  obtain ⟨ad2, hs2, hd2⟩ := run_fromS (P := Try.prog) Try.underlying54 pinS g 0 (n + 1) c (i + 1) ((i : Int) + 1) (by omega) (by omega) hroom
  obtain rfl := hd2 (by omega)
  obtain ⟨ad3, hs3, hd3⟩ := run_fromS (P := Try.prog) Try.underlying54 pinS g 0 (n + 1) c i i rfl (by omega) hroom
  obtain rfl := hd3 (by omega)
  simp only [Nat.zero_add] at hs2 hs3
  have q1 : n + 1 - (i + 1) = r := by omega
  have q2 : n + 1 - i = r + 1 := by omega
  rw [q1] at hs2
  rw [q2] at hs3
  -- do they overlap?
  have hov : ∀ lb cb, (callFunc 50 #[.slice (some ⟨vb, 0, none⟩) 1 1, .slice (some ⟨g, (i + 1) * 2, none⟩) lb cb]).run Try.prog w = .ok (.value (.bool false)) w := fun lb cb => by
    rw [run_callFunc_extern Try.func50 (by kernel_rfl) (by kernel_rfl) (by kernel_rfl) (e := Extern.SlicesOverlaps.overlaps #[54, 54] #[4]) (by kernel_rfl),
      Lib.run_overlaps_apart w 54 4 57 Try.underlying54 2 (fun _ => by kernel_rfl) ⟨vb, 0, none⟩ ⟨g, (i + 1) * 2, none⟩ 1 1 lb cb hvg 57 57 2 cur.length
        (by unfold World.shape?; unfold Box at hv; rw [hv]; rfl) (by unfold World.shape?; rw [hg]; simp) (by rw [hz]; omega) (hv.soft 0) (hv.soft 2)]
    rfl
  -- the first copy
  have hgd : (w.drewN 1).heap[g]? = some (.cells cur.toArray 57 (0, 0)) := hg
  have hfit : (i + 1) * 2 + news.length ≤ cur.length := by rw [hnl, hz]; omega
  have hcp1 := run_copy_rowG (P := Try.prog) (w.drewN 1) 54 54 3 57 2 g ((i + 1) * 2) r (c - (i + 1)) ⟨g, i * 2, none⟩ (r + 1) (c - i) cur 57 news Try.underlying54 pinS hgd (n := r) (by simp) hnl
    (fun j v hj => by
      have e1 : (⟨g, i * 2, none⟩ : Addr).add j = ⟨g, i * 2 + j, none⟩ := by unfold Addr.add; split <;> simp_all
      rw [e1, cell_of_row _ g _ _ _ (0, 0) hgd, List.getElem?_toArray]
      exact row_from runC_len hl (by omega) ht j v (by rw [hnews]; exact hj)) hfit hn1
  obtain ⟨cur1, hcur1⟩ : ∃ cur1, splice cur ((i + 1) * 2) news = cur1 := ⟨_, rfl⟩
  rw [hcur1] at hcp1
  have hl1 : cur1.length = c * 2 := by rw [← hcur1, length_splice _ _ _ hfit, hz]
  obtain ⟨W1, hW1⟩ : ∃ W1, (w.drewN 1).setRow g cur1.toArray = W1 := ⟨_, rfl⟩
  rw [hW1] at hcp1
  have hg1 : W1.heap[g]? = some (.cells cur1.toArray 57 (0, 0)) := by rw [← hW1]; exact setRow_heap _ g _ _ _ _ hgd
  have hv1 : Box W1 vb 57 #[.int .i64 a, .int .i64 b] := by
    unfold Box
    rw [← hW1, setRow_other _ g vb _ hvg]
    exact hv
  have hB1 : Below base w W1 := by rw [← hW1]; exact below_setRow (below_drewN (Below.refl _ w) 1) hbg _
  -- the second copy
  have hcp2 := run_copy_rowG (P := Try.prog) W1 54 54 3 57 2 g (i * 2) (r + 1) (c - i) ⟨vb, 0, none⟩ 1 1 cur1 57 (runC (a, b)) Try.underlying54 pinS hg1 (n := 1) (by simp) rfl
    (fun j v hj => by
      have e1 : (⟨vb, 0, none⟩ : Addr).add j = ⟨vb, j, none⟩ := by unfold Addr.add; split <;> simp_all
      rw [e1, hv1.cell j]
      simpa [runC] using hj) (by rw [hl1, runC_len]; omega) (runC_one _)
  obtain ⟨cur2, hcur2⟩ : ∃ cur2, splice cur1 (i * 2) (runC (a, b)) = cur2 := ⟨_, rfl⟩
  rw [hcur2] at hcp2
  have hl2 : cur2.length = c * 2 := by rw [← hcur2, length_splice _ _ _ (by rw [hl1, runC_len]; omega), hl1]
  obtain ⟨W2, hW2⟩ : ∃ W2, W1.setRow g cur2.toArray = W2 := ⟨_, rfl⟩
  rw [hW2] at hcp2
  have hg2 : W2.heap[g]? = some (.cells cur2.toArray 57 (0, 0)) := by rw [← hW2]; exact setRow_heap _ g _ _ _ _ hg1
  have hB2 : Below base w W2 := by rw [← hW2]; exact below_setRow hB1 hbg _
  have htk : cur2.take ((n + 1) * 2) = (l.take i ++ (a, b) :: l.drop i).flatMap runC := by
    have h1 : cur1.take (i * 2) = (l.take i).flatMap runC := by
      have e := congrArg (List.take (i * 2)) (splice_head (L := cur) (cs := news) (o := (i + 1) * 2) (by rw [hz]; omega))
      rw [hcur1, List.take_take, List.take_take, Nat.min_eq_left (by omega)] at e
      rw [e]
      exact row_upto runC_len hl (by omega) ht
    have h2 : cur1.drop (i * 2 + 2) = news ++ cur.drop ((i + 1) * 2 + news.length) := by
      rw [← hcur1, show i * 2 + 2 = (i + 1) * 2 by omega]
      conv => lhs; unfold splice
      rw [List.drop_left' (by rw [List.length_take]; omega)]
    have h3 : cur2 = ((l.take i).flatMap runC ++ (runC (a, b) ++ news)) ++ cur.drop ((i + 1) * 2 + news.length) := by
      rw [← hcur2]
      unfold splice
      rw [h1, runC_len, h2]
      simp only [List.append_assoc]
    rw [h3, List.take_left' (by rw [List.length_append, List.length_append, flat_length runC_len, runC_len, hnl, List.length_take]; omega), ← hnews, List.flatMap_append, List.flatMap_cons]
  have hA2 : allI cur2 := by
    rw [← hcur2, ← hcur1]
    refine allI_splice (allI_splice hAI (by rw [← hnews]; exact allI_flat _)) ?_
    have := allI_flat [(a, b)]
    simpa using this
  have HO := Lib.hid (FullG.of_rowI (l := l.take i ++ (a, b) :: l.drop i) (n := n + 1) (by rw [List.length_append, List.length_cons, List.length_take, List.length_drop]; omega) hg2 hbg (by omega) (by unfold maxLen; omega) hl2 htk hA2)
  have HB := Lib.hid hB2
  have cin : ((i : Int) == (n : Int)) = false := by simp; omega
  have crm : ((c : Int) < (n : Int) + 1) = False := eq_false (by omega)
  have e1 : IntKind.i64.wrap ((i : Int) + 1) = i + 1 := IntWalk.i64_in _ (by omega)
  unfold InsertP
  rw [hl]
  clear hl hnews hnl hn1 hd0 hD1 hd2 hd3 hgd hfit hcur1 hl1 hW1 hg1 hB1 hcur2 hl2 hW2 hg2 hB2 htk hz ht hg hv hv1 hvg hr q1 q2 hbg hAI hA2
  go_enter Try.func43, Try.ntmps43
  go_wp2_with (simp only [hov])
  go_still_tail 8, (by kernel_rfl)
  change wpList _ _ _ _ _ (w.drewN 1)
  go_wp2
  go_ret
  exact ⟨_, _, rfl, HO.out, HB.out⟩

set_option maxRecDepth 8000 in
set_option maxHeartbeats 1000000 in
theorem insertP_grow (g n i vb : Nat) (a b : Int) (l : List (Int × Int)) (w : World) (base : Nat) (cur : List Value) (hg : w.heap[g]? = some (.cells cur.toArray 57 (0, 0))) (ht : cur.take (n * 2) = l.flatMap runC) (hz : cur.length = n * 2)
    (hl : l.length = n) (hn : n ≤ 15) (hi : i < n) (hv : Box w vb 57 #[.int .i64 a, .int .i64 b]) (hb : base ≤ w.heap.size) :
    Calls Try.prog 43 #[.slice (some ⟨g, 0, none⟩) n n, .int .i64 i, .slice (some ⟨vb, 0, none⟩) 1 1] w (InsertP l i (a, b) base w) := by
  obtain ⟨r, hr⟩ : ∃ r, n - i = r := ⟨_, rfl⟩
  obtain ⟨news, hnews⟩ : ∃ news, (l.drop i).flatMap runC = news := ⟨_, rfl⟩
  have hnl : news.length = r * 2 := by rw [← hnews, flat_length runC_len, List.length_drop, hl, hr]
  have hn1 : ∀ v ∈ news, v.oneCell' = true := by rw [← hnews]; exact flat_one runC_one _
  obtain ⟨olds, holds⟩ : ∃ olds, (l.take i).flatMap runC = olds := ⟨_, rfl⟩
  have hol : olds.length = i * 2 := by rw [← holds, flat_length runC_len, List.length_take, Nat.min_eq_left (by omega)]
  obtain ⟨ti, hti, htz, hts, htb⟩ := info_parts pinI
  have hgl : g < w.heap.size := by
    rcases Nat.lt_or_ge g w.heap.size with h | h
    · exact h
    · rw [Array.getElem?_eq_none h] at hg; cases hg
  -- the new row
  have hfc : (Builtin.firstCells ti.size i (.slice (some ⟨g, 0, none⟩) i n)).run Try.prog w.drew = .ok olds.toArray w.drew := by
    rw [hts]
    exact run_firstCells_some w.drew 2 i ⟨g, 0, none⟩ i n olds hol (fun j v hj => by
      have e1 : (⟨g, 0, none⟩ : Addr).add j = ⟨g, 0 + j, none⟩ := by unfold Addr.add; split <;> simp_all
      have hg' : w.drew.heap[g]? = some (.cells cur.toArray 57 (0, 0)) := hg
      rw [e1, cell_of_row _ g _ _ _ (0, 0) hg', Nat.zero_add, List.getElem?_toArray]
      rw [← holds, ← row_upto runC_len hl (by omega) ht, List.getElem?_take] at hj
      split at hj
      · exact hj
      · cases hj)
  obtain ⟨k, hk⟩ : ∃ k, n + 1 - i = k := ⟨_, rfl⟩
  have hik : i + k = n + 1 := by omega
  have happ := Lib.run_append_grow_zeros (P := Try.prog) w 54 3 54 57 ti _ .i64 .i64 Try.underlying54 Try.underlying3 hti htz (some ⟨g, 0, none⟩) i n olds hfc k (by omega) (by rw [hts]; omega) (by omega) (by omega) (by rw [htb]; omega)
    (by rw [hik, htb]; exact growslice_fits (by omega) (by omega))
  rw [hik] at happ
  obtain ⟨G, hG⟩ : ∃ G, grownCap w (n + 1) n 57 = G := ⟨_, rfl⟩
  have hGn : n + 1 ≤ G := by rw [← hG]; exact grownCap_ge w _ _ _
  have hGm : G ≤ maxLen := by rw [← hG]; exact grownCap_le_maxLen w _ _ _ (by unfold maxLen; omega)
  rw [hG] at happ
  obtain ⟨row, hrow⟩ : ∃ row : List Value, (olds.toArray ++ Builtin.zeroCells (Value.agg #[.int .i64 0, .int .i64 0]).cells k ++ Builtin.zeroCells (Value.agg #[.int .i64 0, .int .i64 0]).cells (G - (n + 1))).toList = row := ⟨_, rfl⟩
  have hrow' : (olds.toArray ++ Builtin.zeroCells (Value.agg #[.int .i64 0, .int .i64 0]).cells k ++ Builtin.zeroCells (Value.agg #[.int .i64 0, .int .i64 0]).cells (G - (n + 1))) = row.toArray := by rw [← hrow]
  rw [hrow'] at happ
  have hrl : row.length = G * 2 := by
    rw [← hrow]
    simp [Builtin.zeroCells, Value.cells, hol]
    omega
  have hrt : row.take (i * 2) = olds := by
    rw [← hrow]
    simp only [Array.toList_append, List.append_assoc]
    rw [List.take_left' hol]
  obtain ⟨W0, hW0⟩ : ∃ W0, w.drew.alloc (.cells row.toArray 57) = W0 := ⟨_, rfl⟩
  rw [hW0] at happ
  obtain ⟨g2, hg2⟩ : ∃ g2, w.heap.size = g2 := ⟨_, rfl⟩
  have hB0 : Below base w W0 := by rw [← hW0]; exact (below_drewN (Below.refl base w) 1).alloc hb _
  have hB0' : Below w.heap.size w W0 := by rw [← hW0]; exact (below_drewN (Below.refl _ w) 1).alloc (Nat.le_refl _) _
  have h0 : W0.heap[g2]? = some (.cells row.toArray 57 (0, 0)) := by rw [← hW0, ← hg2]; exact heap_alloc_new w.drew _
  have hg0 : W0.heap[g]? = some (.cells cur.toArray 57 (0, 0)) := (hB0'.block g hgl).trans hg
  have hv0 : Box W0 vb 57 #[.int .i64 a, .int .i64 b] := hv.below hB0' hv.lt
  have hvlt := hv.lt
  rw [hg2] at happ
  -- the cuts
  obtain ⟨ad0, hs0, hd0⟩ := run_fromS (P := Try.prog) Try.underlying54 pinS g 0 n n i i rfl (by omega) (by omega)
  obtain rfl := hd0 (by omega)
  obtain ⟨D1, hs1, hD1⟩ := run_uptoG (P := Try.prog) Try.underlying54 pinS (some ⟨g, 0, none⟩) n n i i rfl (by omega)
  obtain rfl := hD1 g 0 rfl
  obtain ⟨ad2, hs2, hd2⟩ := run_fromS (P := Try.prog) Try.underlying54 pinS g2 0 (n + 1) G i i rfl (by omega) hGn
  obtain rfl := hd2 (by omega)
  obtain ⟨ad3, hs3, hd3⟩ := run_fromS (P := Try.prog) Try.underlying54 pinS g2 0 (n + 1) G (i + 1) ((i : Int) + 1) (by omega) (by omega) hGn
  obtain rfl := hd3 (by omega)
  simp only [Nat.zero_add] at hs0 hs2 hs3
  have q1 : n + 1 - (i + 1) = r := by omega
  have q2 : n + 1 - i = r + 1 := by omega
  rw [q1] at hs3
  rw [q2] at hs2
  rw [hr] at hs0
  -- the first copy
  have hcp1 := run_copy_rowG (P := Try.prog) W0 54 54 3 57 2 g2 (i * 2) (r + 1) (G - i) ⟨vb, 0, none⟩ 1 1 row 57 (runC (a, b)) Try.underlying54 pinS h0 (n := 1) (by simp) rfl
    (fun j v hj => by
      have e1 : (⟨vb, 0, none⟩ : Addr).add j = ⟨vb, j, none⟩ := by unfold Addr.add; split <;> simp_all
      rw [e1, hv0.cell j]
      simpa [runC] using hj) (by rw [hrl, runC_len]; omega) (runC_one _)
  obtain ⟨cur1, hcur1⟩ : ∃ cur1, splice row (i * 2) (runC (a, b)) = cur1 := ⟨_, rfl⟩
  rw [hcur1] at hcp1
  have hl1 : cur1.length = G * 2 := by rw [← hcur1, length_splice _ _ _ (by rw [hrl, runC_len]; omega), hrl]
  obtain ⟨W1, hW1⟩ : ∃ W1, W0.setRow g2 cur1.toArray = W1 := ⟨_, rfl⟩
  rw [hW1] at hcp1
  have h1 : W1.heap[g2]? = some (.cells cur1.toArray 57 (0, 0)) := by rw [← hW1]; exact setRow_heap _ g2 _ _ _ _ h0
  have hg1 : W1.heap[g]? = some (.cells cur.toArray 57 (0, 0)) := by rw [← hW1, setRow_other _ g2 g _ (by omega)]; exact hg0
  have hB1 : Below base w W1 := by rw [← hW1]; exact below_setRow hB0 (by omega) _
  -- the second copy
  have h1d : (W1.drewN 1).heap[g2]? = some (.cells cur1.toArray 57 (0, 0)) := h1
  have hg1d : (W1.drewN 1).heap[g]? = some (.cells cur.toArray 57 (0, 0)) := hg1
  have hfit : (i + 1) * 2 + news.length ≤ cur1.length := by rw [hnl, hl1]; omega
  have hcp2 := run_copy_rowG (P := Try.prog) (W1.drewN 1) 54 54 3 57 2 g2 ((i + 1) * 2) r (G - (i + 1)) ⟨g, i * 2, none⟩ r r cur1 57 news Try.underlying54 pinS h1d (n := r) (by simp) hnl
    (fun j v hj => by
      have e1 : (⟨g, i * 2, none⟩ : Addr).add j = ⟨g, i * 2 + j, none⟩ := by unfold Addr.add; split <;> simp_all
      rw [e1, cell_of_row _ g _ _ _ (0, 0) hg1d, List.getElem?_toArray]
      exact row_from runC_len hl (by omega) ht j v (by rw [hnews]; exact hj)) hfit hn1
  obtain ⟨cur2, hcur2⟩ : ∃ cur2, splice cur1 ((i + 1) * 2) news = cur2 := ⟨_, rfl⟩
  rw [hcur2] at hcp2
  have hl2 : cur2.length = G * 2 := by rw [← hcur2, length_splice _ _ _ hfit, hl1]
  obtain ⟨W2, hW2⟩ : ∃ W2, (W1.drewN 1).setRow g2 cur2.toArray = W2 := ⟨_, rfl⟩
  rw [hW2] at hcp2
  have h2 : W2.heap[g2]? = some (.cells cur2.toArray 57 (0, 0)) := by rw [← hW2]; exact setRow_heap _ g2 _ _ _ _ h1d
  have hB2 : Below base w W2 := by rw [← hW2]; exact below_setRow (below_drewN hB1 1) (by omega) _
  have htk : cur2.take ((n + 1) * 2) = (l.take i ++ (a, b) :: l.drop i).flatMap runC := by
    have e1 : cur1.take ((i + 1) * 2) = olds ++ runC (a, b) := by
      have := splice_upto (L := row) (cs := runC (a, b)) (o := i * 2) (by rw [hrl]; omega)
      rw [hcur1, runC_len, hrt] at this
      rw [show (i + 1) * 2 = i * 2 + 2 by omega]
      exact this
    have := splice_upto (L := cur1) (cs := news) (o := (i + 1) * 2) (by rw [hl1]; omega)
    rw [hcur2, hnl, e1] at this
    rw [show (n + 1) * 2 = (i + 1) * 2 + r * 2 by omega, this, List.flatMap_append, List.flatMap_cons, holds, hnews, List.append_assoc]
  have hAr : allI row := by
    have hzf : ∀ q, Builtin.zeroCells (Value.agg #[.int .i64 0, .int .i64 0]).cells q = ((List.replicate q ((0, 0) : Int × Int)).flatMap runC).toArray := fun q => zero_flat runC_len (by omega) (0, 0) rfl q
    rw [← hrow, hzf, hzf, ← holds]
    have := allI_flat (l.take i ++ List.replicate k (0, 0) ++ List.replicate (G - (n + 1)) (0, 0))
    simpa only [List.flatMap_append, Array.toList_append] using this
  have hA2 : allI cur2 := by
    rw [← hcur2, ← hcur1]
    refine allI_splice (allI_splice hAr ?_) (by rw [← hnews]; exact allI_flat _)
    have := allI_flat [(a, b)]
    simpa using this
  have HO := Lib.hid (FullG.of_rowI (l := l.take i ++ (a, b) :: l.drop i) (base := base) (n := n + 1) (by rw [List.length_append, List.length_cons, List.length_take, List.length_drop]; omega) h2 (by omega) hGn hGm hl2 htk hA2)
  have HB := Lib.hid hB2
  have hkk : ((k : Nat) : Int) = (n : Int) + 1 - (i : Int) := by omega
  rw [hkk] at happ
  have HR := Lib.hid happ
  have cin : ((i : Int) == (n : Int)) = false := by simp; omega
  have crm : ((n : Int) < (n : Int) + 1) = True := eq_true (by omega)
  have e1 : IntKind.i64.wrap ((i : Int) + 1) = i + 1 := IntWalk.i64_in _ (by omega)
  have HG := Lib.hid hg2
  unfold maxLen at hGm
  unfold InsertP
  rw [hl]
  clear hl hnews hnl hn1 hd0 hD1 hd2 hd3 hfit hcur1 hl1 hW1 hg1 hB1 hcur2 hl2 hW2 h2 hB2 htk hz ht hg hv hr q1 q2 holds hol hti htz hts htb hgl hfc hk hik happ hG hrow hrow' hrl hrt hW0 hB0 hB0' h0 hg0 hv0 hvlt h1 h1d hg1d hkk hb hAr hA2
  go_enter Try.func43, Try.ntmps43
  go_wp2_with (at_builtin; refine wpList_append_runG rfl (.tmp 34) (.tmp 39) 54 3 rfl rfl rfl HR.out ?_)
  go_still_tail 8, (by kernel_rfl)
  change wpList _ _ _ _ _ (W1.drewN 1)
  go_wp2
  go_ret
  exact ⟨_, _, rfl, HO.out, HB.out⟩

theorem insertP_any (A : Option Addr) (n c i vb : Nat) (a b : Int) (l : List (Int × Int)) (w : World) (base : Nat) (hO : FullG runC 2 57 w base A n c l) (hl : l.length = n) (hn : n ≤ 15) (hi : i ≤ n) (hv : Box w vb 57 #[.int .i64 a, .int .i64 b])
    (hvb : ∀ g off, A = some ⟨g, off, none⟩ → vb ≠ g) (hb : base ≤ w.heap.size) :
    Calls Try.prog 43 #[.slice A n c, .int .i64 i, .slice (some ⟨vb, 0, none⟩) 1 1] w (InsertP l i (a, b) base w) := by
  rcases Nat.lt_or_ge i n with h | h
  · have hc := hO.2.1
    have hcm := hO.2.2.1
    have hAn : A ≠ none := fun h => by subst h; have := hO.none_zero.1; omega
    obtain ⟨g, cur, rfl, hbg, hg, hz, ht, hAI⟩ := hO.to_rowI hAn
    rcases Nat.lt_or_ge n c with hr | hr
    · exact insertP_room g n c i vb a b l w base cur hbg hg hcm hz ht hl hn h hr hv (hvb g 0 rfl) hAI
    · obtain rfl : c = n := by omega
      exact insertP_grow g c i vb a b l w base cur hg ht hz hl hn h hv hb
  · obtain rfl : i = n := by omega
    exact insertP_end A i c vb a b l w base hO hl hn hv hb
end Go.Proofs.Ytedndmhekjfpdaa
