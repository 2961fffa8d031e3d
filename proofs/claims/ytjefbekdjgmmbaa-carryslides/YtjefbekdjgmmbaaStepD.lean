/-
  Contracts of package step's set, is, has, paint, hasAll, colored, word.Increasing (and the reference's Rises), whites, broken, scan, state, load: a marking in memory ('MkS').
-/
import Derived.Test.YtjefbekdjgmmbaaTintR
import Derived.Test.YtjefbekdjgmmbaaTintP
import Derived.Test.YtjefbekdjgmmbaaLater
import Derived.Deep.RegionHeld3
import Derived.Test.YtjefbekdjgmmbaaRef
import Derived.Test.YtjefbekdjgmmbaaCloneF
namespace Go.Proofs.Ytjefbekdjgmmbaa
open Go.RowKit

/-- An object of a marking, as its map has it. -/
def mobV (zs : List Int) (co : Int → Int) (x : Int) : Value := .agg #[.int .i64 (vR (nth zs x.toNat)), .int .i64 (co x)]
/-- All of them. -/
def mobOf (zs : List Int) (co : Int → Int) : Int → Option Value := fun x => if x ∈ livesI zs then some (mobV zs co x) else none
/-- The first 'k' words' objects, all white. -/
def mobTo (zs : List Int) (k : Nat) : Int → Option Value := fun x => if x ∈ liveTo zs k then some (mobV zs (fun _ => 0) x) else none
/-- Some of them painted. -/
def paintC (co : Int → Int) (l : List Int) (c : Int) : Int → Int := fun x => if x ∈ l then c else co x
section
variable {zs : List Int} {co : Int → Int} {x c : Int}
theorem mobOf_in (h : x ∈ livesI zs) : mobOf zs co x = some (mobV zs co x) := if_pos h
theorem mobOf_none (h : x ∉ livesI zs) : mobOf zs co x = none := if_neg h
theorem mobOf_isSome (x : Int) : (mobOf zs co x).isSome = decide (x ∈ livesI zs) := by
  unfold mobOf
  by_cases h : x ∈ livesI zs <;> simp [h]
theorem mobTo_zero : mobTo zs 0 = fun _ => none := by funext x; simp [mobTo, liveTo_zero]
theorem mobTo_yes {k : Nat} (h : k < (begins zs 0).length) (hf : vF (nth zs (st zs k)) = false) : mobTo zs (k + 1) = putV (mobTo zs k) (st zs k : Int) (mobV zs (fun _ => 0) (st zs k : Int)) := by
  funext x
  unfold mobTo putV
  rw [liveTo_yes h hf]
  by_cases hx : x = (st zs k : Int)
  · subst hx; simp
  · rw [if_neg hx]
    have : x ∈ liveTo zs k ++ [(st zs k : Int)] ↔ x ∈ liveTo zs k := by simp [hx]
    simp only [this]
theorem mobTo_no {k : Nat} (h : k < (begins zs 0).length) (hf : vF (nth zs (st zs k)) = true) : mobTo zs (k + 1) = mobTo zs k := by
  unfold mobTo; rw [liveTo_no h hf]
theorem mobTo_all : mobTo zs (begins zs 0).length = mobOf zs (fun _ => 0) := by
  unfold mobTo mobOf; rw [liveTo_all]
theorem paint_nil : paintC co [] c = co := by funext y; simp [paintC]
theorem paint_snoc (l : List Int) : paintC (paintC co l c) [x] c = paintC co (l ++ [x]) c := by
  funext y
  unfold paintC
  by_cases h1 : y = x
  · subst h1; simp
  · simp [h1]
theorem put_paint (h : x ∈ livesI zs) : putV (mobOf zs co) x (.agg #[.int .i64 (vR (nth zs x.toNat)), .int .i64 c]) = mobOf zs (paintC co [x] c) := by
  funext y
  unfold putV
  by_cases h1 : y = x
  · subst h1
    rw [if_pos rfl, mobOf_in h]
    unfold mobV paintC
    simp
  · rw [if_neg h1]
    unfold mobOf mobV paintC
    simp [h1]
end

/-- All but block 'g' is as it was. -/
def OnlyM (g : Nat) (w w' : World) : Prop := w.grownBy w' (some g)
section
variable {g B n : Nat} {w w1 w2 w' : World} {k : IntKind} {A : Option Addr} {zs : List Int} {f : Int → Option Value} {N : Nat}
theorem OnlyM.refl : OnlyM g w w := ⟨rfl, rfl, rfl, Nat.le_refl _, fun _ _ _ => rfl⟩
theorem OnlyM.trans (h : OnlyM g w w1) (h' : OnlyM g w1 w2) : OnlyM g w w2 :=
  ⟨h'.os.trans h.os, h'.tape.trans h.tape, h'.output.trans h.output, Nat.le_trans h.size h'.size, fun i hi hne => (h'.block i (Nat.lt_of_lt_of_le hi h.size) hne).trans (h.block i hi hne)⟩
theorem OnlyM.of_below (h : Below w.heap.size w w') : OnlyM g w w' := ⟨h.os, h.tape, h.output, h.size, fun i hi _ => h.block i hi⟩
theorem OnlyM.below (h : OnlyM g w w') (hB : B ≤ g) (hs : B ≤ w.heap.size) : Below B w w' := grown_below h hB hs
theorem OnlyM.size (h : OnlyM g w w') : w.heap.size ≤ w'.heap.size := World.grownBy.size h
theorem OnlyM.box {b : Nat} {t : TypeId} {cs : Array Value} (h : OnlyM g w w') (hb : Box w b t cs) (hne : b ≠ g) : Box w' b t cs := hb.grown h hne
theorem MapV.nocell {P : Program} {q : IntKind} {kk : TypeId} (h : MapV P q kk w g N f) (i : Nat) : w.cell? ⟨g, i, none⟩ = none := by
  obtain ⟨D, ⟨es, c, h1, _⟩, _⟩ := h
  simp [World.cell?, h1]
/-- A row of numbers is no map. -/
theorem Arr.onlyM {P : Program} {q : IntKind} {kk : TypeId} (h : Arr k w B A n zs) (hm : MapV P q kk w g N f) (ho : OnlyM g w w') : Arr k w' B A n zs :=
  ⟨h.1, h.2.1, fun hn => by
    obtain ⟨b, off, e, hb, hc⟩ := h.2.2 hn
    refine ⟨b, off, e, hb, fun j hj => World.grownBy.cell ho (hc j hj) ?_⟩
    intro e'
    injection e' with e'
    have h1 := hc j hj
    have e2 : b = g := e'
    rw [e2, hm.nocell] at h1
    cases h1⟩
end

/-- A marking in memory: its words 'ws', its map in block 'gm', of at most 'N' entries, the objects of 'zs' with their colours, and their words in order. -/
structure MkS (w : World) (W S : Option Addr) (n q gm N : Nat) (ws zs : List Int) (co : Int → Int) : Prop where
  words : Arr .u64 w w.heap.size W n ws
  map : MapV Try.prog .i64 3 w gm N (mobOf zs co)
  starts : Arr .i64 w w.heap.size S q (livesI zs)
  big : zs.length ≤ 256
section
variable {w w' : World} {W S : Option Addr} {n q gm N B : Nat} {ws zs : List Int} {co : Int → Int} {x : Int}
theorem MkS.next (h : MkS w W S n q gm N ws zs co) (hb : Below w.heap.size w w') : MkS w' W S n q gm N ws zs co :=
  ⟨(h.words.below hb (Nat.le_refl _)).more hb.size, h.map.below hb h.map.lt, (h.starts.below hb (Nat.le_refl _)).more hb.size, h.big⟩
theorem MkS.only (h : MkS w W S n q gm N ws zs co) (ho : OnlyM gm w w') {N' : Nat} {co' : Int → Int} (hm : MapV Try.prog .i64 3 w' gm N' (mobOf zs co')) : MkS w' W S n q gm N' ws zs co' :=
  ⟨(h.words.onlyM h.map ho).more ho.size, hm, (h.starts.onlyM h.map ho).more ho.size, h.big⟩
theorem MkS.qlen (h : MkS w W S n q gm N ws zs co) : (livesI zs).length = q ∧ q ≤ 256 := by
  have h1 := h.starts.1
  have h2 := lives_len h.big
  exact ⟨h1, by omega⟩
theorem lives_wf (h : zs.length ≤ 256) (hx : x ∈ livesI zs) : (Lit.int .i64 x).wf = true := by
  have := lives_lt hx
  exact wf_i64.2 (by omega)
end

/-- The colour of the object at a word. -/
def isC (zs : List Int) (co : Int → Int) (x c : Int) : Bool := decide (x ∈ livesI zs ∧ co x = c)
/-- All of a list are objects. -/
def allIn (zs fr : List Int) : Bool := fr.all fun x => decide (x ∈ livesI zs)
theorem allIn_iff {zs fr : List Int} : allIn zs fr = true ↔ ∀ x ∈ fr, x ∈ livesI zs := by unfold allIn; simp
/-- The objects of a colour, in order. -/
def colL (zs : List Int) (co : Int → Int) (k : Int) : List Int := (livesI zs).filter fun x => isC zs co x k
theorem colL_mem {zs : List Int} {co : Int → Int} {k x : Int} : x ∈ colL zs co k ↔ x ∈ livesI zs ∧ co x = k := by
  unfold colL isC
  rw [List.mem_filter]
  simp
theorem colL_rise {zs : List Int} {co : Int → Int} {k : Int} : (colL zs co k).Pairwise (· < ·) := List.Pairwise.filter _ lives_rise
theorem colL_len {zs : List Int} {co : Int → Int} {k : Int} (h : zs.length ≤ 256) : (colL zs co k).length ≤ 256 := Nat.le_trans (List.length_filter_le _ _) (lives_len h)
/-- What colored answers. -/
def ColP (zs : List Int) (co : Int → Int) (k : Int) (w : World) (e : Ending) (w' : World) : Prop := ∃ A' c', e = .returned (.slice A' (colL zs co k).length c') ∧ Below w.heap.size w w' ∧ Arr .i64 w' w'.heap.size A' (colL zs co k).length (colL zs co k) ∧ High w.heap.size A' (colL zs co k).length ∧ SpareI .i64 3 w.heap.size w' A' c'
/-- A list rises. -/
def riseB (l : List Int) : Bool := decide (∀ i, i < l.length - 1 → nth l i < nth l (i + 1))
theorem riseB_iff {l : List Int} : riseB l = true ↔ l.Pairwise (· < ·) := by
  unfold riseB
  rw [decide_eq_true_eq]
  constructor
  · intro h
    rw [List.pairwise_iff_getElem]
    intro i j hi hj hij
    induction j with
    | zero => omega
    | succ j ih =>
      have h1 := h j (by omega)
      rw [nth_get _ _ (by omega), nth_get _ _ hj] at h1
      rcases Nat.lt_or_ge i j with h2 | h2
      · have := ih (by omega) h2
        omega
      · obtain rfl : i = j := by omega
        exact h1
  · intro h i hi
    rw [nth_get _ _ (by omega), nth_get _ _ (by omega)]
    exact List.pairwise_iff_getElem.1 h i (i + 1) (by omega) (by omega) (by omega)

set_option maxHeartbeats 1000000 in
theorem increasing_any (A : Option Addr) (n c B : Nat) (xs : List Int) (w : World) (hn : n ≤ maxLen) (ha : Arr .i64 w B A n xs) :
    Calls Try.prog 118 #[.slice A n c] w fun e w' => e = .returned (.bool (riseB xs)) ∧ ∃ q, w.drewN q = w' := by
  unfold maxLen at hn
  have HA := Lib.hid ha
  have hl := ha.1
  clear ha
  go_enter Try.func118, Try.ntmps118
  go_wp2_with fail
  go_loopw [3] (fun i wr => ∃ k : Nat, 1 ≤ k ∧ i = .int .i64 k ∧ (∃ q, w.drewN q = wr) ∧ k ≤ n + 1 ∧ Hid (∀ i, i + 1 < k → i + 1 < n → nth xs i < nth xs (i + 1))) (fun i _ => n + 1 - (intOf i).toNat)
  case atStart => exact ⟨1, Nat.le_refl _, by go_num, ⟨0, rfl⟩, by omega, fun i hi => absurd hi (by omega)⟩
  case round =>
    obtain ⟨k, hk1, rfl, ⟨q, rfl⟩, hkn, HP⟩ := hrel
    by_cases hlt : k < n
    · obtain ⟨b, off, rfl, _, hcs⟩ := HA.out.2.2 (by omega)
      obtain ⟨j, rfl⟩ : ∃ j, k = j + 1 := ⟨k - 1, by omega⟩
      have c0 := hcs (j + 1) hlt
      have c1 := hcs j (by omega)
      have e1 : ((j + 1 : Nat) : Int) - 1 = j := by omega
      have e2 : IntKind.i64.wrap (j : Int) = j := IntWalk.i64_in _ (by omega)
      have HPN : Hid (nth xs j < nth xs (j + 1) → ∀ i, i + 1 < j + 1 + 1 → i + 1 < n → nth xs i < nth xs (i + 1)) := fun h i hi hin => by
        rcases Nat.lt_succ_iff_lt_or_eq.1 hi with h1 | h1
        · exact HP.out i h1 hin
        · obtain rfl : i = j := by omega
          exact h
      have HNO : Hid (¬ nth xs j < nth xs (j + 1) → riseB xs = false) := fun h => by
        unfold riseB
        rw [decide_eq_false_iff_not]
        exact fun h2 => h (h2 j (by omega))
      clear hcs HP
      generalize nth xs (j + 1) = X at *
      generalize nth xs j = Y at *
      have d0 : (w.drewN q).cell? ⟨b, off + (j + 1), none⟩ = some (.int .i64 X) := c0
      have d1 : (w.drewN q).cell? ⟨b, off + j, none⟩ = some (.int .i64 Y) := c1
      clear c0 c1
      obtain ⟨W, hW⟩ : ∃ W, w.drewN q = W := ⟨_, rfl⟩
      rw [hW] at d0 d1 ⊢
      have HWq := Lib.hid hW
      clear hW
      by_cases hxy : Y < X
      · have f1 : (X ≤ Y) = False := eq_false (by omega)
        have f2 : (Y ≥ X) = False := eq_false (by omega)
        have HP2 := Lib.hid (HPN.out hxy)
        clear HPN HNO hxy
        go_wp2_with fail
        go_quiet (fail)
        go_wp2
        go_roundw
        case rel => exact ⟨j + 1 + 1, by omega, by go_num, ⟨_, (by rw [← HWq.out]; exact (World.drewN_drewN w q _).symm)⟩, by omega, HP2.out⟩
        case measure => simp [intOf]; omega
      · have f1 : (X ≤ Y) = True := eq_true (by omega)
        have f2 : (Y ≥ X) = True := eq_true (by omega)
        have HN := Lib.hid (HNO.out hxy)
        clear HPN HNO hxy
        go_wp2_with fail
        go_quiet (fail)
        go_wp2
        go_ret
        exact ⟨by rw [HN.out]; rfl, _, (by rw [← HWq.out]; exact (World.drewN_drewN w q _).symm)⟩
    · have HR : Hid (riseB xs = true) := by
        show _ = _
        unfold riseB
        rw [decide_eq_true_eq]
        exact fun i hi => HP.out i (by omega) (by omega)
      clear HP
      have f0 : ((k : Int) < (n : Int)) = False := eq_false (by omega)
      go_wp2
      go_ret
      exact ⟨by rw [HR.out]; rfl, q, rfl⟩
/-- The white objects to which an object refers. -/
def whiteL (zs : List Int) (co : Int → Int) (t : Nat) : List Int := (named zs t).filter fun y => isC zs co y 0
theorem whiteL_mem {zs : List Int} {co : Int → Int} {t : Nat} {y : Int} : y ∈ whiteL zs co t ↔ y ∈ named zs t ∧ y ∈ livesI zs ∧ co y = 0 := by
  unfold whiteL isC
  rw [List.mem_filter, decide_eq_true_eq]
/-- What whites answers. -/
def WhiteP (zs : List Int) (co : Int → Int) (t : Nat) (w : World) (e : Ending) (w' : World) : Prop := ∃ A' m c', e = .returned (.slice A' m c') ∧ Below w.heap.size w w' ∧ Arr .i64 w' w'.heap.size A' m (whiteL zs co t)
theorem named_len {zs : List Int} {t : Nat} : (named zs t).length ≤ zs.length := by
  unfold named refWords
  rw [List.length_map, List.length_take, List.length_drop]
  omega
theorem whiteL_len {zs : List Int} {co : Int → Int} {t : Nat} : (whiteL zs co t).length ≤ zs.length := Nat.le_trans (List.length_filter_le _ _) named_len

/-- A black object refers to a white one. -/
def brokenB (zs : List Int) (co : Int → Int) (l : List Int) : Bool := l.any fun x => !(whiteL zs co x.toNat).isEmpty
/-- The colours behind a scan. -/
def scanC (zs : List Int) (co : Int → Int) (t : Nat) : Int → Int := paintC (paintC co [(t : Int)] 2) (whiteL zs (paintC co [(t : Int)] 2) t) 1
/-- What state answers. -/
def StateP (W : Option Addr) (n c : Nat) (zs : List Int) (co : Int → Int) (w : World) (e : Ending) (w' : World) : Prop := ∃ G g gc K k kc, e = .returned (.agg #[.slice W n c, .slice G g gc, .slice K k kc]) ∧ Below w.heap.size w w' ∧ Arr .i64 w' w'.heap.size G g (colL zs co 1) ∧ Arr .i64 w' w'.heap.size K k (colL zs co 2) ∧ SpareI .i64 3 w.heap.size w' G gc ∧ SpareI .i64 3 w.heap.size w' K kc
theorem Own.onlyM {k : IntKind} {e : TypeId} {w w' : World} {base g N : Nat} {v : Value} {xs : List Int} {P : Program} {q : IntKind} {kk : TypeId} {f : Int → Option Value} (h : Own k e w base v xs) (hm : MapV P q kk w g N f) (ho : OnlyM g w w') : Own k e w' base v xs := by
  obtain ⟨⟨hl, h2⟩, hw⟩ := h
  refine ⟨⟨hl, h2.imp id ?_⟩, hw⟩
  rintro ⟨g', cap, cur, rfl, hg, hh, r⟩
  refine ⟨g', cap, cur, rfl, hg, ?_, r⟩
  have hne : g' ≠ g := by
    rintro rfl
    obtain ⟨D, ⟨es, c, h1, _⟩, _⟩ := hm
    rw [hh] at h1
    cases h1
  rw [World.grownBy.block ho g' (by
    rcases Nat.lt_or_ge g' w.heap.size with h | h
    · exact h
    · rw [Array.getElem?_eq_none h] at hh; cases hh) (by intro e; injection e with e; exact hne e)]
  exact hh
theorem OwnF.onlyM {k : IntKind} {e : TypeId} {w w' : World} {base g N : Nat} {v : Value} {xs : List Int} {P : Program} {q : IntKind} {kk : TypeId} {f : Int → Option Value} (h : OwnF k e w base v xs) (hm : MapV P q kk w g N f) (ho : OnlyM g w w') : OwnF k e w' base v xs := by
  rcases h with h | ⟨g', c, sp, h1, h2, h3, h4, hW⟩
  · exact .inl h
  · refine .inr ⟨g', c, sp, h1, h2, h3, h4, ?_, hW.2⟩
    have hne : g' ≠ g := by
      rintro rfl
      obtain ⟨D, ⟨es, c, h1, _⟩, _⟩ := hm
      have hh := hW.1
      rw [hh] at h1
      cases h1
    exact (World.grownBy.block ho g' hW.lt (by intro e; injection e with e; exact hne e)).trans hW.1
theorem Own.less {k : IntKind} {e : TypeId} {w : World} {base base' : Nat} {v : Value} {xs : List Int} (h : Own k e w base v xs) (hb : base' ≤ base) : Own k e w base' v xs := by
  obtain ⟨⟨hl, h2⟩, hw⟩ := h
  refine ⟨⟨hl, h2.imp id ?_⟩, hw⟩
  rintro ⟨g', cap, cur, hv, hg, r⟩
  exact ⟨g', cap, cur, hv, Nat.le_trans hb hg, r⟩
/-- No marking. -/
def markZ : Value := .agg #[.slice none 0 0, .map none, .slice none 0 0]
/-- What load answers. -/
def LoadP (n : Nat) (zs : List Int) (w : World) (e : Ending) (w' : World) : Prop := Below w.heap.size w w' ∧
  ((arErr zs ≠ 0 ∧ e = .returned (.tuple #[markZ, .int .i64 (arErr zs)])) ∨
   (arErr zs = 0 ∧ ∃ W c gm S q sc N, e = .returned (.tuple #[.agg #[.slice W n c, .map (some gm), .slice S q sc], .int .i64 0]) ∧ MkS w' W S n q gm N zs zs (fun _ => 0) ∧ N ≤ 256 ∧ w.heap.size ≤ gm ∧ OwnF .u64 47 w' w.heap.size (.slice W n c) zs))

section
variable {zs : List Int} {w w2 wr wr' : World} {B1 gm gh n c m k : Nat} {W A2 : Option Addr} {v v' : Value}
end

end Go.Proofs.Ytjefbekdjgmmbaa
