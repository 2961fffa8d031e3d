/-
  Package plan.
-/
import Derived.Test.YthdnfocemchgjaaPlanM
import Derived.Test.YthdnfocemchgjaaLater
import Derived.IntWalk
import Derived.Test.YthdnfocemchgjaaRec
import Derived.Test.YthdnfocemchgjaaRefGap
namespace Go.Proofs.Ythdnfocemchgjaa
open Go.RowKit

theorem lessI_any (x y : Int) (w : World) : Calls Try.prog 87 #[.int .i64 x, .int .i64 y] w fun e w' => e = .returned (.bool (decide (x < y))) ∧ w = w' := by
  have n1 : (x != x) = false := by simp
  have HN := Lib.hid (fun wx => (by
    go_enter Try.func102, Try.ntmps102
    go_wp2
    go_ret
    exact ⟨rfl, rfl⟩ : Calls Try.prog 102 #[.int .i64 x] wx fun e w' => e = .returned (.bool false) ∧ wx = w'))
  clear n1
  go_enter Try.func87, Try.ntmps87
  go_wp2_with fail
  refine (HN.out _).mono ?_
  rintro e w1 ⟨rfl, rfl⟩
  go_wp2
  go_ret
  exact ⟨by simp, rfl⟩
theorem nanI_any (x : Int) (w : World) : Calls Try.prog 88 #[.int .i64 x] w fun e w' => e = .returned (.bool false) ∧ w = w' := by
  have n1 : (x != x) = false := by simp
  go_enter Try.func88, Try.ntmps88
  go_wp2
  go_ret
  exact ⟨rfl, rfl⟩

theorem found_iff {xs : List Int} {x : Int} {p : Nat} (h : xs.Pairwise (· < ·)) (h1 : ∀ k, k < p → nth xs k < x) (h2 : ∀ k, p ≤ k → k < xs.length → x ≤ nth xs k) : x ∈ xs ↔ p < xs.length ∧ nth xs p = x := by
  constructor
  · intro hx
    obtain ⟨k, hk, e⟩ := List.getElem_of_mem hx
    rw [← nth_get _ _ hk] at e
    rcases Nat.lt_trichotomy k p with h3 | h3 | h3
    · have := h1 k h3; omega
    · subst h3; exact ⟨hk, e⟩
    · have h4 : nth xs p < nth xs k := by
        rw [nth_get _ _ (by omega), nth_get _ _ hk]
        exact List.pairwise_iff_getElem.1 h p k (by omega) hk h3
      have := h2 p (Nat.le_refl _) (by omega)
      omega
  · rintro ⟨hp, rfl⟩
    exact nth_mem hp

def BinP (xs : List Int) (x : Int) (w : World) (e : Ending) (w' : World) : Prop := ∃ p : Int, e = .returned (.tuple #[.int .i64 p, .bool (decide (x ∈ xs))]) ∧ w = w' ∧ (x ∈ xs → ∃ q : Nat, p = q ∧ q < xs.length ∧ nth xs q = x)
set_option maxRecDepth 8000 in
set_option maxHeartbeats 1000000 in
theorem binI_any (A : Option Addr) (n c B : Nat) (xs : List Int) (x : Int) (w : World) (hn : n ≤ maxLen) (ha : Arr .i64 w B A n xs) (hR : xs.Pairwise (· < ·)) :
    Calls Try.prog 66 #[.slice A n c, .int .i64 x] w (BinP xs x w) := by
  have hl := ha.1
  have HA := Lib.hid ha
  have HL := Lib.hid hl
  have HR := Lib.hid hR
  unfold maxLen at hn
  clear ha hR hl
  go_enter Try.func66, Try.ntmps66
  go_wp2
  go_loopw [7, 8] (fun s t wr => w = wr ∧ ∃ lo hi : Nat, s = .int .i64 lo ∧ t = .int .i64 hi ∧ lo ≤ hi ∧ hi ≤ n ∧ Hid ((∀ k, k < lo → nth xs k < x) ∧ ∀ k, hi ≤ k → k < n → x ≤ nth xs k)) (fun s t _ => (intOf t).toNat - (intOf s).toNat)
  case atStart => exact ⟨rfl, 0, n, rfl, rfl, Nat.zero_le _, Nat.le_refl _, fun k h => absurd h (by omega), fun k h1 h2 => absurd h1 (by omega)⟩
  case round =>
    obtain ⟨rfl, lo, hi, rfl, rfl, hlh, hin, HI⟩ := hrel
    by_cases hlt : lo < hi
    · obtain ⟨M, hM⟩ : ∃ M, (lo + hi) / 2 = M := ⟨_, rfl⟩
      have hM1 : ((lo : Int) + (hi : Int)) / 2 = (M : Int) := by omega
      have hW : IntKind.u64.wrap (wrap64 ((lo : Int) + (hi : Int))) = (lo : Int) + (hi : Int) := by
        have h1 : (lo : Int) + (hi : Int) < 18446744073709551616 := by omega
        have h2 : 0 ≤ (lo : Int) + (hi : Int) := by omega
        generalize (lo : Int) + (hi : Int) = T at *
        unfold wrap64 IntKind.wrap
        simp only [IntKind.bits, IntKind.signed, Bool.false_and, Bool.false_eq_true, if_false]
        omega
      have hMn : M < n := by omega
      have hMn' : (M : Int) < (n : Int) := by omega
      obtain ⟨b, off, rfl, _, hcs⟩ := HA.out.2.2 (by omega)
      have hc := hcs M hMn
      have HMr : Hid (lo ≤ M ∧ M < hi) := ⟨by omega, by omega⟩
      have HUP : Hid (nth xs M < x → ∀ k, k < M + 1 → nth xs k < x) := fun h k hk => by
        rcases Nat.lt_succ_iff_lt_or_eq.1 hk with h1 | rfl
        · have h2 : nth xs k < nth xs M := by
            rw [nth_get _ _ (by have := HL.out; omega), nth_get _ _ (by have := HL.out; omega)]
            exact List.pairwise_iff_getElem.1 HR.out k M (by have := HL.out; omega) (by have := HL.out; omega) h1
          omega
        · exact h
      have HDN : Hid (¬ nth xs M < x → ∀ k, M ≤ k → k < n → x ≤ nth xs k) := fun h k hk hkn => by
        rcases Nat.lt_or_eq_of_le hk with h1 | rfl
        · have h2 : nth xs M < nth xs k := by
            rw [nth_get _ _ (by have := HL.out; omega), nth_get _ _ (by have := HL.out; omega)]
            exact List.pairwise_iff_getElem.1 HR.out M k (by have := HL.out; omega) (by have := HL.out; omega) h1
          omega
        · omega
      clear hcs hM
      have HC := Lib.hid (lessI_any (nth xs M) x w)
      generalize nth xs M = X at *
      by_cases hx : X < x
      · rw [show decide (X < x) = true by simpa using hx] at HC
        have HU := Lib.hid (HUP.out hx)
        clear HUP HDN hx
        go_wp2_with fail
        refine HC.out.mono ?_
        rintro e w1 ⟨rfl, rfl⟩
        go_wp2
        go_roundw
        case rel => exact ⟨by trivial, M + 1, hi, by go_num, rfl, by have := HMr.out; omega, hin, HU.out, HI.out.2⟩
        case measure => have := HMr.out; simp [intOf]; omega
      · rw [show decide (X < x) = false by simpa using hx] at HC
        have HD := Lib.hid (HDN.out hx)
        clear HUP HDN hx
        go_wp2_with fail
        refine HC.out.mono ?_
        rintro e w1 ⟨rfl, rfl⟩
        go_wp2
        go_roundw
        case rel => exact ⟨by trivial, lo, M, rfl, by go_num, HMr.out.1, by omega, HI.out.1, HD.out⟩
        case measure => have := HMr.out; simp [intOf]; omega
    · obtain rfl : hi = lo := by omega
      have hf := found_iff HR.out HI.out.1 (by rw [HL.out]; exact HI.out.2)
      rw [HL.out] at hf
      by_cases hpn : hi < n
      · obtain ⟨b, off, rfl, _, hcs⟩ := HA.out.2.2 (by omega)
        have hc := hcs hi hpn
        have hpn' : (hi : Int) < (n : Int) := by omega
        have HN := Lib.hid (fun z => nanI_any z w)
        clear hcs
        have HF : Hid (decide (x ∈ xs) = decide (nth xs hi = x)) := by
          show _ = _
          simp only [hf, hpn, true_and]
        have HQ : Hid (nth xs hi = x → ∃ q : Nat, (hi : Int) = q ∧ q < xs.length ∧ nth xs q = x) := fun e => ⟨hi, rfl, by rw [HL.out]; exact hpn, e⟩
        clear hf HI
        generalize nth xs hi = X at *
        by_cases hx : X = x
        · have HFT : Hid (decide (x ∈ xs) = true) := by show _ = _; rw [HF.out]; simpa using hx
          have e1 : (X == x) = true := by simpa using hx
          have HQ := Lib.hid (HQ.out hx)
          clear HF hx
          go_wp2
          go_ret2
          exact ⟨(hi : Int), by rw [HFT.out]; rfl, rfl, fun _ => HQ.out⟩
        · have HFT : Hid (decide (x ∈ xs) = false) := by show _ = _; rw [HF.out]; simpa using hx
          have e1 : (X == x) = false := by simpa using hx
          clear HF hx
          go_wp2_with fail
          refine (HN.out _).mono ?_
          rintro e w1 ⟨rfl, rfl⟩
          go_wp2
          go_ret2
          exact ⟨(hi : Int), by rw [HFT.out]; rfl, rfl, fun hc => absurd hc (of_decide_eq_false HFT.out)⟩
      · have HFT : Hid (decide (x ∈ xs) = false) := by
          show _ = _
          simp only [hf, hpn, false_and, decide_false]
        have hpn' : ¬ (hi : Int) < (n : Int) := by omega
        clear hf HI
        go_wp2
        go_ret2
        exact ⟨(hi : Int), by rw [HFT.out]; rfl, rfl, fun hc => absurd hc (of_decide_eq_false HFT.out)⟩

def lgTo (zs : List Int) (k : Nat) : Int → Option Int := fun x => if x ∈ liveTo zs k then some (lgI zs x) else none
def lgOf (zs : List Int) : Int → Option Int := fun x => if x ∈ livesI zs then some (lgI zs x) else none
section
variable {zs : List Int} {k : Nat}
theorem lgOf_isSome (x : Int) : (lgOf zs x).isSome = decide (x ∈ livesI zs) := by unfold lgOf; by_cases h : x ∈ livesI zs <;> simp [h]
theorem lgOf_in {x : Int} (h : x ∈ livesI zs) : (lgOf zs x).getD 0 = lgI zs x := by unfold lgOf; rw [if_pos h]; rfl
theorem lgTo_zero : lgTo zs 0 = fun _ => none := by funext x; simp [lgTo, liveTo_zero]
theorem lgTo_all : lgTo zs (begins zs 0).length = lgOf zs := by unfold lgTo lgOf; rw [liveTo_all]
theorem lgTo_yes (h : k < (begins zs 0).length) (hf : vF (nth zs (st zs k)) = false) : lgTo zs (k + 1) = put (lgTo zs k) (st zs k : Int) (lgI zs (st zs k : Int)) := by
  funext x
  unfold lgTo put
  rw [liveTo_yes h hf]
  by_cases hx : x = (st zs k : Int)
  · subst hx; simp
  · rw [if_neg hx]
    have : x ∈ liveTo zs k ++ [(st zs k : Int)] ↔ x ∈ liveTo zs k := by simp [hx]
    simp only [this]
theorem lgTo_no (h : k < (begins zs 0).length) (hf : vF (nth zs (st zs k)) = true) : lgTo zs (k + 1) = lgTo zs k := by unfold lgTo; rw [liveTo_no h hf]
end

/-- What measure answers. -/
def MeasP (zs : List Int) (w : World) (e : Ending) (w' : World) : Prop := Below w.heap.size w w' ∧
  ((arErr zs ≠ 0 ∧ e = .returned (.tuple #[.map none, .int .i64 (arErr zs)])) ∨
   (arErr zs = 0 ∧ ∃ gm, e = .returned (.tuple #[.map (some gm), .int .i64 0]) ∧ MapF Try.prog .i64 .i64 3 3 w' gm 300 (lgOf zs)))
/-- What holds while it goes over the spots. -/
structure MeasI (zs : List Int) (w : World) (B1 gm : Nat) (A2 : Option Addr) (m k : Nat) (wr : World) : Prop where
  map : MapF Try.prog .i64 .i64 3 3 wr gm k (lgTo zs k)
  spots : ArrG spotC 5 wr B1 A2 m (spList zs)
  below : Below w.heap.size w wr
  o1 : w.heap.size ≤ gm
  o2 : B1 ≤ gm
section
variable {zs : List Int} {w wr wr' : World} {B1 gm m k : Nat} {A2 : Option Addr}
theorem MeasI.next (h : MeasI zs w B1 gm A2 m k wr) (hb : Below wr.heap.size wr wr') : MeasI zs w B1 gm A2 m k wr' :=
  ⟨h.map.below hb h.map.lt, h.spots.below hb (by have := h.map.lt; have := h.o2; omega), h.below.trans (hb.mono h.below.size), h.o1, h.o2⟩
theorem MeasI.free (h : MeasI zs w B1 gm A2 m k wr) (hk : k < (begins zs 0).length) (hf : vF (nth zs (st zs k)) = true) : MeasI zs w B1 gm A2 m (k + 1) wr :=
  ⟨by rw [lgTo_no hk hf]; exact h.map.mono (by omega), h.spots, h.below, h.o1, h.o2⟩
theorem MeasI.put (h : MeasI zs w B1 gm A2 m k wr) (hk : k < (begins zs 0).length) (hf : vF (nth zs (st zs k)) = false) (hm : MapF Try.prog .i64 .i64 3 3 wr' gm (k + 1) (put (lgTo zs k) (st zs k : Int) (lgI zs (st zs k : Int)))) (hg : wr.grownBy wr' (some gm)) : MeasI zs w B1 gm A2 m (k + 1) wr' :=
  ⟨by rw [lgTo_yes hk hf]; exact hm, h.spots.below (grown_below hg h.o2 (by have := h.map.lt; have := h.o2; omega)) (Nat.le_refl _), h.below.trans (grown_below hg h.o1 h.below.size), h.o1, h.o2⟩
end

theorem zero_flat {α : Type} [Inhabited α] {enc : α → List Value} {size : Nat} (hs : ∀ a, (enc a).length = size) (h0 : 0 < size) {z : Array Value} (x : α) (hx : enc x = z.toList) (q : Nat) : Builtin.zeroCells z q = ((List.replicate q x).flatMap enc).toArray := by
  have hzs : z.size = size := by rw [← hs x, hx]; simp
  apply Array.ext
  · rw [size_zeroCells, hzs, List.size_toArray, flat_length hs, List.length_replicate]
  · intro i h1 h2
    have hi : i < q * size := by rwa [size_zeroCells, hzs] at h1
    have d1 : i / size < q := Nat.div_lt_of_lt_mul (by rw [Nat.mul_comm]; exact hi)
    have d2 := Nat.mod_lt i h0
    have d3 := Nat.div_add_mod' i size
    have h3 := flat_at hs (List.replicate q x) (i / size) (i % size) (by simpa using d1) d2
    rw [d3, nthG_get _ _ (by simpa using d1), List.getElem_replicate, hx, List.getElem?_eq_getElem (by rw [List.size_toArray] at h2; exact h2), List.getElem?_eq_getElem (by simp [hzs]; exact d2)] at h3
    injection h3 with h3
    refine Eq.trans ?_ h3.symm
    simp [Builtin.zeroCells, hzs, d2]
theorem OwnG.lessH {α : Type} {enc : α → List Value} {size : Nat} {e : TypeId} {w : World} {base : Nat} {l : List α} {v : Value} {base' : Nat} (h : OwnG enc size e w base v l) (hb : base' ≤ base) : OwnG enc size e w base' v l :=
  ⟨h.1, h.2.imp id fun ⟨g, cap, cur, h1, h2, r⟩ => ⟨g, cap, cur, h1, Nat.le_trans hb h2, r⟩⟩
/-- 'make([]T, n)' of structs. -/
theorem run_made_rows {α : Type} [Inhabited α] {enc : α → List Value} {size : Nat} (hs : ∀ a, (enc a).length = size) (h0 : 0 < size) {P : Program} {t e : TypeId} (ht : P.underlying t = some (.slice e)) {z : Value} {bytes : Nat}
    (hinfo : (P.info? e).map (fun i => (i.zero, i.size, i.bytes)) = some (some z, size, bytes)) {x0 : α} (hx0 : enc x0 = z.cells.toList) (n : Nat) (hn : n * bytes ≤ 281474976710656) (hm : n ≤ maxLen) (w : World) :
    ∃ w', Sem.run P (Instr.makeSlice t (.int .i64 (n : Int)) (.int .i64 (n : Int))) w = .ok (.slice (some ⟨w.heap.size, 0, none⟩) n n) w' ∧ OwnG enc size e w' w.heap.size (.slice (some ⟨w.heap.size, 0, none⟩) n n) (List.replicate n x0) ∧ Below w.heap.size w w' := by
  obtain ⟨i, hi, hz, hs', hby⟩ := info_parts hinfo
  have hb' : (i.bytes : Int) * (n : Int) ≤ 281474976710656 := by
    have h : ((i.bytes * n : Nat) : Int) ≤ 281474976710656 := by rw [hby, Nat.mul_comm]; omega
    rwa [Int.natCast_mul] at h
  have hr := run_make (P := P) w t e i z ht hi hz .i64 .i64 n n (by omega) (Int.le_refl _) hb' (by unfold maxLen at hm; omega)
  simp only [Int.toNat_natCast] at hr
  have e1 : madeCells z.cells (n * i.size) = ((List.replicate n x0).flatMap enc).toArray := by
    rw [← zero_flat hs h0 (z := z.cells) x0 hx0, hs', Builtin.zeroCells, madeCells]
    have : z.cells.size = size := by rw [← hs x0, hx0]; simp
    rw [this]
  rw [e1] at hr
  refine ⟨_, hr, ⟨flat_length hs _, .inr ⟨w.heap.size, n, ((List.replicate n x0).flatMap enc).toArray, by simp, Nat.le_refl _, heap_alloc_new w _, by simp, hm, ?_, ?_⟩⟩, (Below.refl _ w).alloc (Nat.le_refl _) _⟩
  · rw [List.size_toArray, flat_length hs, List.length_replicate]
  · rw [List.toList_toArray, List.take_of_length_le (by rw [flat_length hs]; exact Nat.le_refl _)]


/-- 'r' at place 'p' of a slice of ranges. -/
def putR2 (w : World) (g p : Nat) (x : Int × Int) : World := (w.setCell ⟨g, p * 2, none⟩ (.int .i64 x.1)).setCell ⟨g, p * 2 + 1, none⟩ (.int .i64 x.2)
section
variable {e : TypeId} {w w' : World} {base g n c : Nat} {l : List (Int × Int)}
theorem OwnG.oneR (h : OwnG runC 2 e w base (.slice (some ⟨g, 0, none⟩) n c) l) (j i : Nat) (a : Int × Int) (u : Value) (hj : j < l.length) (hi : i < 2) (he : runC a = (runC (nthG l j)).set i u) :
    OwnG runC 2 e (w.setCell ⟨g, j * 2 + i, none⟩ u) base (.slice (some ⟨g, 0, none⟩) n c) (l.set j a) := by
  obtain ⟨g', cap', hv, _, _, _, _, hs⟩ := h.form runC_len (by omega)
  injection hv with e1 e2 e3
  injection e1 with e1
  injection e1 with e1
  subst e1
  exact hs j i a u hj hi he
theorem OwnG.putR2 (h : OwnG runC 2 e w base (.slice (some ⟨g, 0, none⟩) n c) l) (p : Nat) (x : Int × Int) (hp : p < l.length) : OwnG runC 2 e (putR2 w g p x) base (.slice (some ⟨g, 0, none⟩) n c) (l.set p x) := by
  have s0 := h.oneR p 0 (x.1, (nthG l p).2) (.int .i64 x.1) hp (by omega) rfl
  have s1 := s0.oneR p 1 x (.int .i64 x.2) (by simpa using hp) (by omega) (by rw [nthG_set_same _ _ _ hp]; rfl)
  rw [List.set_set] at s1
  exact s1
theorem OwnG.atR (h : OwnG runC 2 e w base (.slice (some ⟨g, 0, none⟩) n c) l) {p : Nat} (hp : p < l.length) : base ≤ g ∧ g < w.heap.size ∧
    (w.cell? ⟨g, p * 2, none⟩ = some (.int .i64 (nthG l p).1) ∧ w.cell? ⟨g, p * 2 + 1, none⟩ = some (.int .i64 (nthG l p).2)) ∧ (w.frozen? ⟨g, p * 2, none⟩ = false ∧ w.frozen? ⟨g, p * 2 + 1, none⟩ = false) := by
  obtain ⟨g', cap, hv, _, hb, hlt, hc, _⟩ := h.form runC_len (by omega)
  injection hv with e1 e2 e3
  injection e1 with e1
  injection e1 with e1
  subst e1
  exact ⟨hb, hlt, ⟨(hc p hp 0 (by omega)).1, (hc p hp 1 (by omega)).1⟩, (hc p hp 0 (by omega)).2, (hc p hp 1 (by omega)).2⟩
theorem putR2_below {B : Nat} {a : World} (h : Below B a w) (hg : B ≤ g) (p : Nat) (x : Int × Int) : Below B a (putR2 w g p x) := below_set (below_set h hg _ _) hg _ _
end

/-- What is in the list of moved ranges when the first 'k' are. -/
def mvAt (zs ks ps : List Int) (n k : Nat) : List (Int × Int) := moveTo zs ks ps k ++ List.replicate (n - k) ((0, 0) : Int × Int)
section
variable {zs ks ps : List Int} {n k : Nat}
theorem mvAt_len (h : k ≤ n) : (mvAt zs ks ps n k).length = n := by unfold mvAt; rw [List.length_append, moveTo_len, List.length_replicate]; omega
theorem mvAt_zero : mvAt zs ks ps n 0 = List.replicate n (0, 0) := by unfold mvAt; simp [moveTo]
theorem mvAt_all : mvAt zs ks ps ks.length ks.length = moveL zs ks ps := by unfold mvAt; simp [moveL]
theorem mvAt_set (h : k < n) : (mvAt zs ks ps n k).set k (toN zs ks ps k, lgI zs (nth ks k)) = mvAt zs ks ps n (k + 1) := by
  unfold mvAt
  rw [moveTo_succ, List.set_append_right _ _ (by rw [moveTo_len]; exact Nat.le_refl _), moveTo_len, Nat.sub_self, show n - k = (n - (k + 1)) + 1 by omega, List.replicate_succ, List.set_cons_zero, List.append_assoc]
  rfl
end
theorem gapsB_len {l : List (Int × Int)} : ∀ i, (gapsB l i).length ≤ i
  | 0 => Nat.zero_le _
  | i + 1 => by
    have := gapsB_len (l := l) i
    show (gapsB l i ++ _).length ≤ _
    rw [List.length_append]
    split
    · simp; omega
    · simp; omega
theorem gapsB_yes {l : List (Int × Int)} {i : Nat} (h : bEnd l i < (nthG l i).1) : gapsB l (i + 1) = gapsB l i ++ [(bEnd l i, (nthG l i).1 - bEnd l i)] := by
  show gapsB l i ++ _ = _
  rw [if_pos h]
theorem gapsB_no {l : List (Int × Int)} {i : Nat} (h : ¬ bEnd l i < (nthG l i).1) : gapsB l (i + 1) = gapsB l i := by
  show gapsB l i ++ _ = _
  rw [if_neg h, List.append_nil]
theorem bEnd_succ {l : List (Int × Int)} {i : Nat} : bEnd l (i + 1) = (nthG l i).1 + (nthG l i).2 := rfl
/-- Small numbers. -/
def SmallR (l : List (Int × Int)) : Prop := ∀ k, k < l.length → 0 ≤ (nthG l k).1 ∧ (nthG l k).1 ≤ 256 ∧ 0 ≤ (nthG l k).2 ∧ (nthG l k).2 ≤ 256
theorem SmallR.end_ {l : List (Int × Int)} (h : SmallR l) : ∀ {k : Nat}, k ≤ l.length → 0 ≤ bEnd l k ∧ bEnd l k ≤ 512
  | 0, _ => ⟨Int.le_refl _, by show (0 : Int) ≤ 512; decide⟩
  | k + 1, hk => by
    have := h k (by omega)
    rw [bEnd_succ]
    omega
theorem PlanOk.small {zs ks ps : List Int} (h : PlanOk zs ks ps) : SmallR (moveL zs ks ps ++ [((zs.length : Int), 0)]) := fun k hk => by
  have h256 := arena_len h.arena
  rw [List.length_append, moveL_len, List.length_singleton] at hk
  rcases Nat.lt_succ_iff_lt_or_eq.1 hk with h1 | h1
  · rw [move_nth h1]
    have := h.fits h1
    show 0 ≤ toN zs ks ps k ∧ toN zs ks ps k ≤ 256 ∧ 0 ≤ lgI zs (nth ks k) ∧ lgI zs (nth ks k) ≤ 256
    omega
  · subst h1
    rw [move_last]
    show (0 : Int) ≤ zs.length ∧ (zs.length : Int) ≤ 256 ∧ (0 : Int) ≤ 0 ∧ (0 : Int) ≤ 256
    omega
/-- What Gaps, To answer. -/
def PlanGpP (zs ks ps : List Int) (w : World) (e : Ending) (w' : World) : Prop := ∃ A m c, e = .returned (.tuple #[.slice A m c, .int .i64 (planE zs ks ps)]) ∧ Below w.heap.size w w' ∧ ArrG runC 2 w' w'.heap.size A m (gapR zs ks ps)
def PlanToP (zs ks ps : List Int) (w : World) (e : Ending) (w' : World) : Prop := ∃ A m c, e = .returned (.tuple #[.slice A m c, .int .i64 (planE zs ks ps)]) ∧ Below w.heap.size w w' ∧ Arr .i64 w' w'.heap.size A m (toR zs ks ps)

/-- What is in the list of new words when the first 'k' are. -/
def toAt (zs ks ps : List Int) (n k : Nat) : List Int := toTo zs ks ps k ++ List.replicate (n - k) 0
section
variable {zs ks ps : List Int} {n k : Nat}
theorem toAt_len (h : k ≤ n) : (toAt zs ks ps n k).length = n := by unfold toAt; rw [List.length_append, toTo_len, List.length_replicate]; omega
theorem toAt_zero : toAt zs ks ps n 0 = List.replicate n 0 := by unfold toAt; simp [toTo]
theorem toAt_all : toAt zs ks ps ks.length ks.length = toL zs ks ps := by unfold toAt; simp [toL]
theorem toAt_set (h : k < n) : (toAt zs ks ps n k).set k (toN zs ks ps k) = toAt zs ks ps n (k + 1) := by
  unfold toAt
  rw [toTo_succ, List.set_append_right _ _ (by rw [toTo_len]; exact Nat.le_refl _), toTo_len, Nat.sub_self, show n - k = (n - (k + 1)) + 1 by omega, List.replicate_succ, List.set_cons_zero, List.append_assoc]
  rfl
end
theorem planInt : (Try.prog.info? 3).map (fun i => (i.zero, i.size, i.bytes)) = some (some (.int .i64 0), 1, 8) := by kernel_rfl
/-- What holds while To goes over the moved. -/
structure PtI (zs ks ps : List Int) (w w1 : World) (k : Nat) (wr : World) : Prop where
  row : Whole .i64 3 wr w1.heap.size (toAt zs ks ps ks.length k)
  below : Below w.heap.size w wr
  later : Below w1.heap.size w1 wr

end Go.Proofs.Ythdnfocemchgjaa
