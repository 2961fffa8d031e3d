/-
  Package tally: the tally in memory; named, load.
-/
import Derived.Test.YtgekghlmkfkbjaaTallyN
import Derived.Test.YtgekghlmkfkbjaaTintR
import Derived.Test.YtgekghlmkfkbjaaOwnF
import Derived.Test.YtgekghlmkfkbjaaLater
import Derived.StillTailTactics
import Derived.Deep.DeepCutAuto
namespace Go.Proofs.Ytgekghlmkfkbjaa
open Go.RowKit

/-- What some references name. -/
def nmL (xs : List Int) : List Int := (xs.map nm).filter fun x => decide (0 ≤ x)
def refL (zs : List Int) (x : Int) : List Int := nmL (refWords zs x.toNat)
/-- .. of some objects, one after another. -/
def refsL (zs l : List Int) : List Int := l.flatMap (refL zs)
section
variable {zs fr bl A B l : List Int} {x y : Int}
theorem refL_count (h : 0 ≤ x) : (refL zs y).count x = (nxOf zs y).count x := by
  unfold refL nmL nxOf named
  exact List.count_filter (by simpa using h)
theorem cnt_refs (h : 0 ≤ x) : cntO zs fr bl x = (fr ++ refsL zs bl).count x := by
  unfold cntO refsL
  rw [List.count_append, List.count_flatMap]
  congr 2
  refine List.map_congr_left fun y _ => ?_
  simp only [Function.comp]
  exact (refL_count h).symm
theorem refL_in (hz : ∀ z ∈ zs, (Lit.int .u64 z).wf = true) (h : arErr zs = 0) (hy : y ∈ livesI zs) (hx : x ∈ refL zs y) : x ∈ livesI zs := by
  unfold refL nmL at hx
  obtain ⟨h1, h2⟩ := List.mem_filter.1 hx
  rw [decide_eq_true_eq] at h2
  rcases lives_closed hz h y hy x h1 with h3 | h3
  · omega
  · exact h3
theorem refL_len (hl : zs.length ≤ 256) : (refL zs y).length ≤ 256 := by
  refine Nat.le_trans (List.length_filter_le _ _) ?_
  rw [List.length_map]
  unfold refWords
  rw [List.length_take, List.length_drop]
  omega
theorem refsL_len (hl : zs.length ≤ 256) : ∀ {l : List Int}, (refsL zs l).length ≤ 256 * l.length
  | [] => Nat.zero_le _
  | a :: l => by
    have h1 := refL_len (y := a) hl
    have h2 := refsL_len hl (l := l)
    unfold refsL at h2 ⊢
    rw [List.flatMap_cons, List.length_append, List.length_cons]
    omega
theorem refsL_app : refsL zs (A ++ B) = refsL zs A ++ refsL zs B := List.flatMap_append
theorem refsL_one : refsL zs [y] = refL zs y := by simp [refsL]
/-- Fewer objects name no more. -/
theorem refs_sub : ∀ {A B : List Int}, A.Nodup → (∀ y ∈ A, y ∈ B) → (refsL zs A).count x ≤ (refsL zs B).count x
  | [], _, _, _ => by simp [refsL]
  | a :: A, B, hn, h => by
    obtain ⟨h1, h2⟩ := List.nodup_cons.1 hn
    have hp := List.perm_cons_erase (h a List.mem_cons_self)
    have ih := refs_sub (A := A) (B := B.erase a) h2 fun y hy => (List.mem_erase_of_ne (show y ≠ a from fun e => h1 (by rw [← e]; exact hy))).2 (h y (List.mem_cons_of_mem _ hy))
    have h3 : (refsL zs B).count x = (refsL zs (a :: B.erase a)).count x := (hp.flatMap_right (refL zs)).count_eq x
    rw [h3]
    unfold refsL at ih ⊢
    rw [List.flatMap_cons, List.flatMap_cons, List.count_append, List.count_append]
    omega
end
/-- A count for some. -/
def cnIn (L : List Int) (f : Int → Int) : Int → Option Int := fun x => if x ∈ L then some (f x) else none
section
variable {L l : List Int} {f g : Int → Int} {x y : Int}
theorem cnIn_isSome : (cnIn L f x).isSome = decide (x ∈ L) := by unfold cnIn; by_cases h : x ∈ L <;> simp [h]
theorem cnIn_in (h : x ∈ L) : (cnIn L f x).getD 0 = f x := by unfold cnIn; rw [if_pos h]; rfl
theorem cnIn_congr (h : ∀ x ∈ L, f x = g x) : cnIn L f = cnIn L g := by
  funext x
  unfold cnIn
  by_cases hx : x ∈ L
  · rw [if_pos hx, if_pos hx, h x hx]
  · rw [if_neg hx, if_neg hx]
theorem cnIn_put (h : x ∈ L) : put (cnIn L f) x y = cnIn L fun z => if z = x then y else f z := by
  funext z
  unfold put cnIn
  by_cases hz : z = x
  · subst hz; simp [h]
  · simp [hz]
theorem cnIn_new (h : f x = y) : put (cnIn L f) x y = cnIn (L ++ [x]) f := by
  funext z
  unfold put cnIn
  by_cases hz : z = x
  · subst hz; simp [h]
  · simp [hz]
/-- One more is named. -/
theorem cnIn_more (h : x ∈ L) : put (cnIn L fun z => (l.count z : Int)) x ((l.count x : Int) + 1) = cnIn L fun z => ((l ++ [x]).count z : Int) := by
  rw [cnIn_put h]
  refine cnIn_congr fun z _ => ?_
  rw [List.count_append, List.count_singleton]
  by_cases hz : z = x
  · subst hz; simp
  · rw [if_neg hz, if_neg (by simpa using fun e => hz e.symm)]; simp
end

theorem MapF.nocell {P : Program} {q qe : IntKind} {k e : TypeId} {w : World} {g N : Nat} {f : Int → Option Int} (h : MapF P q qe k e w g N f) (i : Nat) : w.cell? ⟨g, i, none⟩ = none := by
  obtain ⟨D, ⟨es, c, h1, _⟩, _⟩ := h
  simp [World.cell?, h1]
theorem MapV.noCell {P : Program} {q : IntKind} {k : TypeId} {w : World} {g N : Nat} {f : Int → Option Value} (h : MapV P q k w g N f) (i : Nat) : w.cell? ⟨g, i, none⟩ = none := by
  obtain ⟨D, ⟨es, c, h1, _⟩, _⟩ := h
  simp [World.cell?, h1]
theorem Arr.keepMap {k : IntKind} {w w' : World} {g B n : Nat} {A : Option Addr} {zs : List Int} (h : Arr k w B A n zs) (hm : ∀ i, w.cell? ⟨g, i, none⟩ = none) (ho : w.grownBy w' (some g)) : Arr k w' B A n zs :=
  ⟨h.1, h.2.1, fun hn => by
    obtain ⟨b, off, e, hb, hc⟩ := h.2.2 hn
    refine ⟨b, off, e, hb, fun j hj => World.grownBy.cell ho (hc j hj) ?_⟩
    intro e'
    injection e' with e'
    have h1 := hc j hj
    have e2 : b = g := e'
    rw [e2, hm] at h1
    cases h1⟩

theorem countT : MapT Try.prog .i64 .i64 45 3 3 := ⟨Try.underlying45, Try.underlying3, Try.underlying3, fun _ => by kernel_rfl⟩
theorem namesT : MapVT Try.prog .i64 46 3 23 (.slice none 0 0) := ⟨Try.underlying46, Try.underlying3, fun _ => by kernel_rfl⟩

/-- The references of an object as a slice; its row is none of two blocks. -/
def RfL (zs : List Int) (w : World) (g o : Option Nat) (v : Value) (x : Int) : Prop := ∃ A c, v = .slice A (refL zs x).length c ∧ Arr .i64 w w.heap.size A (refL zs x).length (refL zs x) ∧ Off g A (refL zs x).length ∧ Off o A (refL zs x).length
def rvIn (L : List Int) (R : Int → Value) : Int → Option Value := fun x => if x ∈ L then some (R x) else none
/-- Block 'gr' maps some objects to their references. -/
def TRfI (zs : List Int) (w : World) (gr N : Nat) (L : List Int) (g o : Option Nat) : Prop := ∃ R : Int → Value, MapV Try.prog .i64 3 w gr N (rvIn L R) ∧ ∀ x ∈ L, RfL zs w g o (R x) x
section
variable {zs L : List Int} {w w' : World} {g o : Option Nat} {gr N b : Nat} {v v' : Value} {x : Int}
theorem RfL.next (h : RfL zs w g o v x) (hb : Below w.heap.size w w') : RfL zs w' g o v x := by
  obtain ⟨A, c, h1, h2, h3⟩ := h
  exact ⟨A, c, h1, (h2.below hb (Nat.le_refl _)).more hb.size, h3⟩
theorem RfL.only (h : RfL zs w g o v x) (hm : ∀ i, w.cell? ⟨b, i, none⟩ = none) (ho : w.grownBy w' (some b)) : RfL zs w' g o v x := by
  obtain ⟨A, c, h1, h2, h3⟩ := h
  exact ⟨A, c, h1, (h2.keepMap hm ho).more ho.size, h3⟩
theorem RfL.grew {u : Value} (h : RfL zs w g u.ownBlock v x) (hg : Grew w u w' v') : RfL zs w' g v'.ownBlock v x := by
  obtain ⟨A, c, h1, h2, h3, h4⟩ := h
  obtain ⟨h5, h6⟩ := h2.grew hg h4 (Nat.le_refl _)
  exact ⟨A, c, h1, h5.more hg.size, h3, h6⟩
theorem RfL.set (h : RfL zs w (some b) o v x) (j : Nat) (d : Value) : RfL zs (w.setCell ⟨b, j, none⟩ d) (some b) o v x := by
  obtain ⟨A, c, h1, h2, h3⟩ := h
  refine ⟨A, c, h1, ?_, h3⟩
  rw [size_setCell]
  exact h2.setOff h3.1 j d
theorem TRfI.next (h : TRfI zs w gr N L g o) (hb : Below w.heap.size w w') : TRfI zs w' gr N L g o := by
  obtain ⟨R, h1, h2⟩ := h
  exact ⟨R, h1.below hb h1.lt, fun x hx => (h2 x hx).next hb⟩
theorem TRfI.only (h : TRfI zs w gr N L g o) (hne : b ≠ gr) (hm : ∀ i, w.cell? ⟨b, i, none⟩ = none) (ho : w.grownBy w' (some b)) : TRfI zs w' gr N L g o := by
  obtain ⟨R, h1, h2⟩ := h
  exact ⟨R, h1.keep (ho.block gr h1.lt (by intro e; injection e with e; exact hne e.symm)), fun x hx => (h2 x hx).only hm ho⟩
theorem TRfI.grew {u : Value} (h : TRfI zs w gr N L g u.ownBlock) (hne : u.ownBlock ≠ some gr) (hg : Grew w u w' v') : TRfI zs w' gr N L g v'.ownBlock := by
  obtain ⟨R, h1, h2⟩ := h
  exact ⟨R, h1.keep (hg.block gr h1.lt hne), fun x hx => (h2 x hx).grew hg⟩
theorem TRfI.set (h : TRfI zs w gr N L (some b) o) (hne : b ≠ gr) (j : Nat) (d : Value) : TRfI zs (w.setCell ⟨b, j, none⟩ d) gr N L (some b) o := by
  obtain ⟨R, h1, h2⟩ := h
  exact ⟨R, h1.setOther hne j d, fun x hx => (h2 x hx).set j d⟩
theorem TRfI.made : TRfI zs (w.alloc (.map #[] 0)) w.heap.size 0 [] g o :=
  ⟨fun _ => .int .i64 0, by have := MapV.made Try.prog .i64 3 w; rwa [show (fun _ => none : Int → Option Value) = rvIn [] fun _ => .int .i64 0 by funext x; simp [rvIn]] at this, fun x hx => by cases hx⟩
end

/-- What named answers. -/
def TNamedP (xs : List Int) (w : World) (e : Ending) (w' : World) : Prop := ∃ A' c', e = .returned (.slice A' (nmL xs).length c') ∧ Below w.heap.size w w' ∧ Arr .i64 w' w'.heap.size A' (nmL xs).length (nmL xs) ∧ High w.heap.size A' (nmL xs).length
set_option maxHeartbeats 1000000 in
theorem tallyNamed_any (A : Option Addr) (n c B : Nat) (xs : List Int) (w : World) (hn : n ≤ 256) (hB : B ≤ w.heap.size) (ha : Arr .u64 w B A n xs) (hx : ∀ j, j < n → nth xs j = 0 ∨ (1 ≤ nth xs j ∧ nth xs j ≤ 256)) :
    Calls Try.prog 70 #[.slice A n c] w (TNamedP xs w) := by
  have HA := Lib.hid ha
  have HX := Lib.hid hx
  have HB := Lib.hid hB
  have hl := ha.1
  clear ha hx hB
  go_enter Try.func70, Try.ntmps70
  go_wp2_with fail
  go_loopw [3, 8] (fun v i wr => ∃ j : Nat, j ≤ n ∧ i = .int .i64 j ∧ Hid (OwnF .i64 3 wr w.heap.size v (nmL (xs.take j))) ∧ Hid (Below w.heap.size w wr)) (fun _ i _ => n - (intOf i).toNat)
  case atStart => exact ⟨0, Nat.zero_le _, rfl, OwnF.nil, Below.refl _ _⟩
  case round =>
    obtain ⟨j, hj, rfl, HOW, HO⟩ := hrel
    by_cases hlt : j < n
    · obtain ⟨b, off, rfl, _, hcs⟩ := (HA.out.below HO.out HB.out).2.2 (by omega)
      have hc := hcs j hlt
      have hX := HX.out j hlt
      have HTK : Hid (nmL (xs.take (j + 1)) = nmL (xs.take j) ++ (if 0 ≤ nm (nth xs j) then [nm (nth xs j)] else [])) := by
        show _ = _
        unfold nmL
        rw [List.take_succ_eq_append_getElem (by omega), List.map_append, List.filter_append, nth_get _ _ (by omega)]
        congr 1
        rw [List.map_cons, List.map_nil, List.filter_cons, List.filter_nil]
        by_cases h0 : 0 ≤ nm xs[j] <;> simp [h0]
      have HFL : Hid ((nmL (xs.take j)).length ≤ 256) := by
        show _ ≤ _
        refine Nat.le_trans (List.length_filter_le _ _) ?_
        rw [List.length_map, List.length_take]
        omega
      clear hcs
      generalize nth xs j = X at *
      rcases hX with rfl | ⟨x1, x2⟩
      · have c0 : ((0 : Int) != 0) = false := rfl
        have hT : nmL (xs.take (j + 1)) = nmL (xs.take j) := by rw [HTK.out, show nm 0 = -1 from rfl, if_neg (by omega), List.append_nil]
        have HN := HOW
        rw [← hT] at HN
        clear hT
        clear HTK HOW HFL
        go_wp2
        go_roundw
        case rel => exact ⟨j + 1, by omega, by go_num, HN.out, HO.out⟩
        case measure => simp [intOf]; omega
      · have c0 : (X != 0) = true := by simp; omega
        have e1 : IntKind.i64.wrap X = X := IntWalk.i64_in _ (by omega)
        have e2 : IntKind.i64.wrap (X - 1) = X - 1 := IntWalk.i64_in _ (by omega)
        obtain ⟨v', w5, hrun, hO', hB'⟩ := HOW.out.pushB (P := Try.prog) (t := 23) (ty := 23) Try.underlying23 intI_info (by omega) (x := X - 1) (wf_i64.2 (by omega)) (by have := HFL.out; omega) HO.out.size
        have hN : nmL (xs.take (j + 1)) = nmL (xs.take j) ++ [X - 1] := by
          rw [HTK.out]
          unfold nm
          rw [if_neg (by omega : ¬ 256 < X), if_pos (by omega)]
        rw [← hN] at hO'
        have HRN := Lib.hid hrun
        have HOW2 := Lib.hid hO'
        have HO2 := Lib.hid (HO.out.trans hB')
        clear hrun hO' hB' hN HTK HOW HFL HO
        go_wp2_with (at_builtin; refine wpList_append_run rfl (.tmp 14) (.tmp 18) 23 rfl rfl rfl HRN.out ?_)
        go_roundw
        case rel => exact ⟨j + 1, by omega, by go_num, HOW2.out, HO2.out⟩
        case measure => simp [intOf]; omega
    · obtain rfl : j = n := by omega
      rw [List.take_of_length_le (by omega)] at HOW
      obtain ⟨A', c', rfl, _, hA', _⟩ := HOW.out.arr
      have HH := Lib.hid HOW.out.own.high
      have HA2 := Lib.hid hA'
      clear HOW hA'
      unfold TNamedP
      obtain ⟨ln, hln⟩ : ∃ ln, (nmL xs).length = ln := ⟨_, rfl⟩
      rw [hln] at HH HA2
      have HLN := Lib.hid hln
      clear hln
      go_wp2
      go_ret
      exact ⟨A', c', by rw [HLN.out]; rfl, HO.out, by rw [HLN.out]; exact HA2.out, by rw [HLN.out]; exact HH.out⟩

/-- No tally. -/
def tlZ : Value := .agg #[.map none, .map none, .slice none 0 0]
/-- A tally in memory: counts 'f', in a map of at most 'N' entries; references; words in order. -/
structure TlI (zs : List Int) (w : World) (gc gr N : Nat) (S : Option Addr) (q : Nat) (f : Int → Int) : Prop where
  cn : MapF Try.prog .i64 .i64 3 3 w gc N (cnIn (livesI zs) f)
  rf : TRfI zs w gr 300 (livesI zs) none none
  st : Arr .i64 w w.heap.size S q (livesI zs)
  ne : gc ≠ gr
section
variable {zs : List Int} {w w' : World} {gc gr N q : Nat} {S : Option Addr} {f f' : Int → Int}
theorem TlI.next (h : TlI zs w gc gr N S q f) (hb : Below w.heap.size w w') : TlI zs w' gc gr N S q f :=
  ⟨h.cn.below hb h.cn.lt, h.rf.next hb, (h.st.below hb (Nat.le_refl _)).more hb.size, h.ne⟩
theorem TlI.only (h : TlI zs w gc gr N S q f) (ho : w.grownBy w' (some gc)) {N' : Nat} (hm : MapF Try.prog .i64 .i64 3 3 w' gc N' (cnIn (livesI zs) f')) : TlI zs w' gc gr N' S q f' :=
  ⟨hm, h.rf.only h.ne h.cn.nocell ho, (h.st.keepMap h.cn.nocell ho).more ho.size, h.ne⟩
end
theorem noInt3t {x y : Option Nat} {a : Option Addr} {m c : Nat} (k : IntKind) (j : Nat) (z : Int) : (#[Value.map x, .map y, .slice a m c] : Array Value)[j]? ≠ some (Value.int k z) := by
  intro h
  match j, h with
  | 0, h => simp at h
  | 1, h => simp at h
  | 2, h => simp at h
  | _ + 3, h => simp at h
/-- A row that holds something is no struct's block. -/
theorem Arr.offTl {k : IntKind} {w w' : World} {n g : Nat} {t : TypeId} {A : Option Addr} {zs : List Int} {cs : Array Value} (h : Arr k w w.heap.size A n zs) (hx : Box w g t cs) (hno : ∀ (j : Nat) (x : Int), cs[j]? ≠ some (Value.int k x)) (hs : w'.heap.size = w.heap.size) (hb : ∀ i, i ≠ g → w'.heap[i]? = w.heap[i]?) : Arr k w' w'.heap.size A n zs :=
  ⟨h.1, h.2.1, fun hn => by
    obtain ⟨b, off, e, hlt, hc⟩ := h.2.2 hn
    refine ⟨b, off, e, by omega, fun j hj => ?_⟩
    have h1 := hc j hj
    have hne : b ≠ g := by
      rintro rfl
      rw [hx.cell] at h1
      exact hno _ _ h1
    have := hb b hne
    rw [← hc j hj]
    simp [World.cell?, this]⟩
/-- A struct is written that is none of its own. -/
theorem TlI.box {zs : List Int} {w w' : World} {gc gr N q g m c : Nat} {S a : Option Addr} {x y : Option Nat} {t : TypeId} {f : Int → Int} (h : TlI zs w gc gr N S q f) (hx : Box w g t #[.map x, .map y, .slice a m c]) (hs : w'.heap.size = w.heap.size) (hb : ∀ i, i ≠ g → w'.heap[i]? = w.heap[i]?) : TlI zs w' gc gr N S q f := by
  have hd : w.cell? ⟨g, 0, none⟩ = some (.map x) := hx.cell 0
  have h1 : gc ≠ g := by
    rintro rfl
    rw [h.cn.nocell] at hd
    cases hd
  obtain ⟨R, h2, h3⟩ := h.rf
  have h4 : gr ≠ g := by
    rintro rfl
    rw [h2.noCell] at hd
    cases hd
  refine ⟨h.cn.keep (hb gc h1), ⟨R, h2.keep (hb gr h4), fun z hz => ?_⟩, h.st.offTl hx (noInt3t _) hs hb, h.ne⟩
  obtain ⟨A, c', h5, h6, h7⟩ := h3 z hz
  exact ⟨A, c', h5, h6.offTl hx (noInt3t _) hs hb, h7⟩
/-- What load answers. -/
def TLoadP (zs : List Int) (w : World) (e : Ending) (w' : World) : Prop := Below w.heap.size w w' ∧
  ((arErr zs ≠ 0 ∧ e = .returned (.tuple #[tlZ, .int .i64 (arErr zs)])) ∨
   (arErr zs = 0 ∧ ∃ gc gr S q sc, e = .returned (.tuple #[.agg #[.map (some gc), .map (some gr), .slice S q sc], .int .i64 0]) ∧ w.heap.size ≤ gc ∧ TlI zs w' gc gr 300 S q fun _ => 0))
/-- What holds while load goes over the spots. -/
structure LoI (zs : List Int) (w : World) (B1 gc gr gt : Nat) (A2 : Option Addr) (m k : Nat) (v : Value) (wr : World) : Prop where
  res : Box wr w.heap.size 48 #[.map none, .map none, .slice none 0 0]
  box : Box wr gt 48 #[.map (some gc), .map (some gr), v]
  cn : MapF Try.prog .i64 .i64 3 3 wr gc k (cnIn (liveTo zs k) fun _ => 0)
  rf : TRfI zs wr gr k (liveTo zs k) (some gt) v.ownBlock
  own : Own .i64 3 wr (gt + 1) v (liveTo zs k)
  spots : ArrG spotC 5 wr B1 A2 m (spList zs)
  below : Below w.heap.size w wr
  o1 : w.heap.size < B1
  o2 : B1 ≤ gc
  o3 : gc < gr
  o4 : gr < gt
section
variable {zs : List Int} {w wr wr' : World} {B1 gc gr gt m k : Nat} {A2 : Option Addr} {v v' : Value}
theorem TRfI.mono {L : List Int} {N N' : Nat} {g o : Option Nat} (h : TRfI zs w gr N L g o) (hn : N ≤ N') : TRfI zs w gr N' L g o := by
  obtain ⟨R, h1, h2⟩ := h
  exact ⟨R, h1.mono hn, h2⟩
theorem LoI.next (h : LoI zs w B1 gc gr gt A2 m k v wr) (hb : Below wr.heap.size wr wr') : LoI zs w B1 gc gr gt A2 m k v wr' :=
  ⟨h.res.below hb h.res.lt, h.box.below hb h.box.lt, h.cn.below hb h.cn.lt, h.rf.next hb, h.own.below hb, h.spots.below hb (by have := h.cn.lt; have := h.o2; omega), h.below.trans (hb.mono h.below.size), h.o1, h.o2, h.o3, h.o4⟩
theorem LoI.free (h : LoI zs w B1 gc gr gt A2 m k v wr) (hk : k < (begins zs 0).length) (hf : vF (nth zs (st zs k)) = true) : LoI zs w B1 gc gr gt A2 m (k + 1) v wr :=
  ⟨h.res, h.box, by rw [liveTo_no hk hf]; exact h.cn.mono (by omega), by rw [liveTo_no hk hf]; exact h.rf.mono (by omega), by rw [liveTo_no hk hf]; exact h.own, h.spots, h.below, h.o1, h.o2, h.o3, h.o4⟩
/-- The object has a count. -/
structure LoJ (zs : List Int) (w : World) (B1 gc gr gt : Nat) (A2 : Option Addr) (m k : Nat) (v : Value) (wr : World) : Prop where
  res : Box wr w.heap.size 48 #[.map none, .map none, .slice none 0 0]
  box : Box wr gt 48 #[.map (some gc), .map (some gr), v]
  cn : MapF Try.prog .i64 .i64 3 3 wr gc (k + 1) (cnIn (liveTo zs (k + 1)) fun _ => 0)
  rf : TRfI zs wr gr k (liveTo zs k) (some gt) v.ownBlock
  own : Own .i64 3 wr (gt + 1) v (liveTo zs k)
  spots : ArrG spotC 5 wr B1 A2 m (spList zs)
  below : Below w.heap.size w wr
  o1 : w.heap.size < B1
  o2 : B1 ≤ gc
  o3 : gc < gr
  o4 : gr < gt
theorem LoJ.next (h : LoJ zs w B1 gc gr gt A2 m k v wr) (hb : Below wr.heap.size wr wr') : LoJ zs w B1 gc gr gt A2 m k v wr' :=
  ⟨h.res.below hb h.res.lt, h.box.below hb h.box.lt, h.cn.below hb h.cn.lt, h.rf.next hb, h.own.below hb, h.spots.below hb (by have := h.cn.lt; have := h.o2; omega), h.below.trans (hb.mono h.below.size), h.o1, h.o2, h.o3, h.o4⟩
theorem LoI.count (h : LoI zs w B1 gc gr gt A2 m k v wr) (hk : k < (begins zs 0).length) (hf : vF (nth zs (st zs k)) = false) (hg : wr.grownBy wr' (some gc)) (hm : MapF Try.prog .i64 .i64 3 3 wr' gc (k + 1) (put (cnIn (liveTo zs k) fun _ => 0) (st zs k : Int) 0)) : LoJ zs w B1 gc gr gt A2 m k v wr' := by
  have o1 := h.o1
  have o2 := h.o2
  have o3 := h.o3
  have o4 := h.o4
  have hl := h.cn.lt
  have hs := h.below.size
  refine ⟨h.res.grown hg (by omega), h.box.grown hg (by omega), ?_, h.rf.only (by omega) h.cn.nocell hg, h.own.keepB fun i hi hlt => hg.block i hlt (by intro e; injection e; omega), h.spots.below (grown_below hg h.o2 (by omega)) (Nat.le_refl _), h.below.trans (grown_below hg (by omega) hs), o1, o2, o3, o4⟩
  rw [liveTo_yes hk hf, ← cnIn_new rfl]
  exact hm
/-- .. its references .. -/
structure LoK (zs : List Int) (w : World) (B1 gc gr gt : Nat) (A2 : Option Addr) (m k : Nat) (v : Value) (wr : World) : Prop where
  res : Box wr w.heap.size 48 #[.map none, .map none, .slice none 0 0]
  box : Box wr gt 48 #[.map (some gc), .map (some gr), v]
  cn : MapF Try.prog .i64 .i64 3 3 wr gc (k + 1) (cnIn (liveTo zs (k + 1)) fun _ => 0)
  rf : TRfI zs wr gr (k + 1) (liveTo zs (k + 1)) (some gt) v.ownBlock
  own : Own .i64 3 wr (gt + 1) v (liveTo zs k)
  spots : ArrG spotC 5 wr B1 A2 m (spList zs)
  below : Below w.heap.size w wr
  o1 : w.heap.size < B1
  o2 : B1 ≤ gc
  o3 : gc < gr
  o4 : gr < gt
theorem LoK.next (h : LoK zs w B1 gc gr gt A2 m k v wr) (hb : Below wr.heap.size wr wr') : LoK zs w B1 gc gr gt A2 m k v wr' :=
  ⟨h.res.below hb h.res.lt, h.box.below hb h.box.lt, h.cn.below hb h.cn.lt, h.rf.next hb, h.own.below hb, h.spots.below hb (by have := h.cn.lt; have := h.o2; omega), h.below.trans (hb.mono h.below.size), h.o1, h.o2, h.o3, h.o4⟩
theorem rvIn_new {L : List Int} {R : Int → Value} {x : Int} {y : Value} : putV (rvIn L R) x y = rvIn (L ++ [x]) fun z => if z = x then y else R z := by
  funext z
  unfold putV rvIn
  by_cases hz : z = x
  · subst hz; simp
  · simp [hz]
theorem LoJ.names (h : LoJ zs w B1 gc gr gt A2 m k v wr) (hk : k < (begins zs 0).length) (hf : vF (nth zs (st zs k)) = false) {R : Int → Value} {y : Value} (hR : MapV Try.prog .i64 3 wr gr k (rvIn (liveTo zs k) R)) (hL : ∀ x ∈ liveTo zs k, RfL zs wr (some gt) v.ownBlock (R x) x) (hy : RfL zs wr (some gt) v.ownBlock y (st zs k : Int))
    (hg : wr.grownBy wr' (some gr)) (hm : MapV Try.prog .i64 3 wr' gr (k + 1) (putV (rvIn (liveTo zs k) R) (st zs k : Int) y)) : LoK zs w B1 gc gr gt A2 m k v wr' := by
  have o1 := h.o1
  have o2 := h.o2
  have o3 := h.o3
  have o4 := h.o4
  have hl := h.cn.lt
  have hs := h.below.size
  have hlr := hR.lt
  refine ⟨h.res.grown hg (by omega), h.box.grown hg (by omega), h.cn.keep (hg.block gc hl (by intro e; injection e; omega)), ?_, h.own.keepB fun i hi hlt => hg.block i hlt (by intro e; injection e; omega), h.spots.below (grown_below hg (by omega) (by omega)) (Nat.le_refl _), h.below.trans (grown_below hg (by omega) hs), o1, o2, o3, o4⟩
  rw [rvIn_new] at hm
  rw [liveTo_yes hk hf]
  refine ⟨_, hm, fun x hx => ?_⟩
  by_cases hxe : x = (st zs k : Int)
  · rw [if_pos hxe, hxe]
    exact hy.only hR.noCell hg
  · rw [if_neg hxe]
    rcases List.mem_append.1 hx with hx | hx
    · exact (hL x hx).only hR.noCell hg
    · exact absurd (List.mem_singleton.1 hx) hxe
/-- .. and its word in the list. -/
theorem LoK.word (h : LoK zs w B1 gc gr gt A2 m k v wr) (hk : k < (begins zs 0).length) (hf : vF (nth zs (st zs k)) = false) (hg : Grew wr v wr' v') (ho : Own .i64 3 wr' (gt + 1) v' (liveTo zs k ++ [(st zs k : Int)])) :
    LoI zs w B1 gc gr gt A2 m (k + 1) v' (wr'.setCell ⟨gt, 2, none⟩ v') := by
  have o1 := h.o1
  have o2 := h.o2
  have o3 := h.o3
  have o4 := h.o4
  have hl := h.cn.lt
  have hs := h.below.size
  have hrow := h.own.row
  have hgt : gt < wr.heap.size := h.box.lt
  have hne : ∀ b, b ≤ gt → v.ownBlock ≠ some b := fun b hb e => by have := hrow b e; omega
  obtain ⟨b1, b2⟩ := h.box.grew hg (hne gt (Nat.le_refl _))
  obtain ⟨c1, c2⟩ := h.cn.grew hg (hne gc (by omega))
  have hb : Below (gt + 1) wr wr' := hg.below (by omega) hrow
  refine ⟨((h.res.grew hg (hne _ (by omega))).1).setOther (by omega) _ _, b1.set 2 v', c1.setOther (by omega) _ _, (h.rf.grew (hne gr (by omega)) hg).set (by omega) _ _, ?_, ?_, below_set (h.below.trans (hb.mono (by omega))) (by omega) _ _, o1, o2, o3, o4⟩
  · rw [liveTo_yes hk hf]
    exact ho.keepB fun i hi _ => heap_setOther wr' (by omega) _ _
  · have h1 := h.spots.below hb (by omega)
    exact h1.keep fun p hp => by
      have := heap_setOther wr' (g := gt) (b := p.block) (by omega) 2 v'
      simp [World.cell?, this]
end
end Go.Proofs.Ytgekghlmkfkbjaa
