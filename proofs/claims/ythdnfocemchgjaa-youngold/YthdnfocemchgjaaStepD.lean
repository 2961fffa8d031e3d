/-
  Contracts of package step's set, is, has, paint, hasAll, colored, word.Increasing (and the reference's Rises), whites, broken, scan, state, load: a marking in memory ('MkS').
-/
import Derived.Test.YthdnfocemchgjaaTintR
import Derived.Test.YthdnfocemchgjaaTintP
import Derived.Test.YthdnfocemchgjaaLater
import Derived.Deep.RegionHeld3
import Derived.Test.YthdnfocemchgjaaRef
import Derived.Test.YthdnfocemchgjaaCloneF
namespace Go.Proofs.Ythdnfocemchgjaa
open Go.RowKit

/-- An object of a marking, as its map has it. -/
def mobV (zs : List Int) (co : Int → Int) (x : Int) : Value := .agg #[.int .i64 (vR (nth zs x.toNat)), .int .i64 (co x)]
/-- All of them. -/
def mobOf (zs : List Int) (co : Int → Int) : Int → Option Value := fun x => if x ∈ livesI zs then some (mobV zs co x) else none
/-- The first 'k' words' objects, all white. -/
def mobTo (zs : List Int) (k : Nat) : Int → Option Value := fun x => if x ∈ liveTo zs k then some (mobV zs (fun _ => 0) x) else none
/-- Some of them painted. -/
def paintC (co : Int → Int) (l : List Int) (c : Int) : Int → Int := fun x => if x ∈ l then c else co x
section
variable {zs : List Int} {co : Int → Int} {x c : Int}
theorem mobOf_in (h : x ∈ livesI zs) : mobOf zs co x = some (mobV zs co x) := if_pos h
theorem mobOf_none (h : x ∉ livesI zs) : mobOf zs co x = none := if_neg h
theorem mobOf_isSome (x : Int) : (mobOf zs co x).isSome = decide (x ∈ livesI zs) := by
  unfold mobOf
  by_cases h : x ∈ livesI zs <;> simp [h]
theorem mobTo_zero : mobTo zs 0 = fun _ => none := by funext x; simp [mobTo, liveTo_zero]
theorem mobTo_yes {k : Nat} (h : k < (begins zs 0).length) (hf : vF (nth zs (st zs k)) = false) : mobTo zs (k + 1) = putV (mobTo zs k) (st zs k : Int) (mobV zs (fun _ => 0) (st zs k : Int)) := by
  funext x
  unfold mobTo putV
  rw [liveTo_yes h hf]
  by_cases hx : x = (st zs k : Int)
  · subst hx; simp
  · rw [if_neg hx]
    have : x ∈ liveTo zs k ++ [(st zs k : Int)] ↔ x ∈ liveTo zs k := by simp [hx]
    simp only [this]
theorem mobTo_no {k : Nat} (h : k < (begins zs 0).length) (hf : vF (nth zs (st zs k)) = true) : mobTo zs (k + 1) = mobTo zs k := by
  unfold mobTo; rw [liveTo_no h hf]
theorem mobTo_all : mobTo zs (begins zs 0).length = mobOf zs (fun _ => 0) := by
  unfold mobTo mobOf; rw [liveTo_all]
theorem paint_nil : paintC co [] c = co := by funext y; simp [paintC]
theorem paint_snoc (l : List Int) : paintC (paintC co l c) [x] c = paintC co (l ++ [x]) c := by
  funext y
  unfold paintC
  by_cases h1 : y = x
  · subst h1; simp
  · simp [h1]
theorem put_paint (h : x ∈ livesI zs) : putV (mobOf zs co) x (.agg #[.int .i64 (vR (nth zs x.toNat)), .int .i64 c]) = mobOf zs (paintC co [x] c) := by
  funext y
  unfold putV
  by_cases h1 : y = x
  · subst h1
    rw [if_pos rfl, mobOf_in h]
    unfold mobV paintC
    simp
  · rw [if_neg h1]
    unfold mobOf mobV paintC
    simp [h1]
end

/-- All but block 'g' is as it was. -/
def OnlyM (g : Nat) (w w' : World) : Prop := w.grownBy w' (some g)
section
variable {g B n : Nat} {w w1 w2 w' : World} {k : IntKind} {A : Option Addr} {zs : List Int} {f : Int → Option Value} {N : Nat}
theorem OnlyM.refl : OnlyM g w w := ⟨rfl, rfl, rfl, Nat.le_refl _, fun _ _ _ => rfl⟩
theorem OnlyM.trans (h : OnlyM g w w1) (h' : OnlyM g w1 w2) : OnlyM g w w2 :=
  ⟨h'.os.trans h.os, h'.tape.trans h.tape, h'.output.trans h.output, Nat.le_trans h.size h'.size, fun i hi hne => (h'.block i (Nat.lt_of_lt_of_le hi h.size) hne).trans (h.block i hi hne)⟩
theorem OnlyM.of_below (h : Below w.heap.size w w') : OnlyM g w w' := ⟨h.os, h.tape, h.output, h.size, fun i hi _ => h.block i hi⟩
theorem OnlyM.below (h : OnlyM g w w') (hB : B ≤ g) (hs : B ≤ w.heap.size) : Below B w w' := grown_below h hB hs
theorem OnlyM.size (h : OnlyM g w w') : w.heap.size ≤ w'.heap.size := World.grownBy.size h
theorem OnlyM.box {b : Nat} {t : TypeId} {cs : Array Value} (h : OnlyM g w w') (hb : Box w b t cs) (hne : b ≠ g) : Box w' b t cs := hb.grown h hne
theorem MapV.nocell {P : Program} {q : IntKind} {kk : TypeId} (h : MapV P q kk w g N f) (i : Nat) : w.cell? ⟨g, i, none⟩ = none := by
  obtain ⟨D, ⟨es, c, h1, _⟩, _⟩ := h
  simp [World.cell?, h1]
/-- A row of numbers is no map. -/
theorem Arr.onlyM {P : Program} {q : IntKind} {kk : TypeId} (h : Arr k w B A n zs) (hm : MapV P q kk w g N f) (ho : OnlyM g w w') : Arr k w' B A n zs :=
  ⟨h.1, h.2.1, fun hn => by
    obtain ⟨b, off, e, hb, hc⟩ := h.2.2 hn
    refine ⟨b, off, e, hb, fun j hj => World.grownBy.cell ho (hc j hj) ?_⟩
    intro e'
    injection e' with e'
    have h1 := hc j hj
    have e2 : b = g := e'
    rw [e2, hm.nocell] at h1
    cases h1⟩
end

theorem objT : MapVT Try.prog .i64 103 3 113 (.agg #[.int .i64 0, .int .i64 0]) := ⟨Try.underlying103, Try.underlying3, fun _ => by kernel_rfl⟩
/-- A marking in memory: its words 'ws', its map in block 'gm', of at most 'N' entries, the objects of 'zs' with their colours, and their words in order. -/
structure MkS (w : World) (W S : Option Addr) (n q gm N : Nat) (ws zs : List Int) (co : Int → Int) : Prop where
  words : Arr .u64 w w.heap.size W n ws
  map : MapV Try.prog .i64 3 w gm N (mobOf zs co)
  starts : Arr .i64 w w.heap.size S q (livesI zs)
  big : zs.length ≤ 256
section
variable {w w' : World} {W S : Option Addr} {n q gm N B : Nat} {ws zs : List Int} {co : Int → Int} {x : Int}
theorem MkS.next (h : MkS w W S n q gm N ws zs co) (hb : Below w.heap.size w w') : MkS w' W S n q gm N ws zs co :=
  ⟨(h.words.below hb (Nat.le_refl _)).more hb.size, h.map.below hb h.map.lt, (h.starts.below hb (Nat.le_refl _)).more hb.size, h.big⟩
theorem MkS.only (h : MkS w W S n q gm N ws zs co) (ho : OnlyM gm w w') {N' : Nat} {co' : Int → Int} (hm : MapV Try.prog .i64 3 w' gm N' (mobOf zs co')) : MkS w' W S n q gm N' ws zs co' :=
  ⟨(h.words.onlyM h.map ho).more ho.size, hm, (h.starts.onlyM h.map ho).more ho.size, h.big⟩
theorem MkS.qlen (h : MkS w W S n q gm N ws zs co) : (livesI zs).length = q ∧ q ≤ 256 := by
  have h1 := h.starts.1
  have h2 := lives_len h.big
  exact ⟨h1, by omega⟩
theorem lives_wf (h : zs.length ≤ 256) (hx : x ∈ livesI zs) : (Lit.int .i64 x).wf = true := by
  have := lives_lt hx
  exact wf_i64.2 (by omega)
end

/-- The colour of the object at a word. -/
def isC (zs : List Int) (co : Int → Int) (x c : Int) : Bool := decide (x ∈ livesI zs ∧ co x = c)
set_option maxHeartbeats 1000000 in
theorem stepHas_any (W S : Option Addr) (n c q sc gm N : Nat) (ws zs : List Int) (co : Int → Int) (x : Int) (w : World) (hx : (Lit.int .i64 x).wf = true) (h : MkS w W S n q gm N ws zs co) :
    Calls Try.prog 63 #[.agg #[.slice W n c, .map (some gm), .slice S q sc], .int .i64 x] w fun e w' => e = .returned (.bool (decide (x ∈ livesI zs))) ∧ Below w.heap.size w w' := by
  have b1 := (Below.refl _ w).alloc (Nat.le_refl _) (.cells #[.slice W n c, .map (some gm), .slice S q sc] 105)
  have BX := Box.new w 105 #[.slice W n c, .map (some gm), .slice S q sc]
  have hM := h.next b1
  have hlk := hM.map.lookOk objT hx
  rw [mobOf_isSome] at hlk
  have hv : ∃ r k, (mobOf zs co x).getD (.agg #[.int .i64 0, .int .i64 0]) = .agg #[.int .i64 r, .int .i64 k] := by
    unfold mobOf mobV
    split
    · exact ⟨_, _, rfl⟩
    · exact ⟨_, _, rfl⟩
  obtain ⟨r, k, hv⟩ := hv
  rw [hv] at hlk
  have d1 : (w.alloc (.cells #[.slice W n c, .map (some gm), .slice S q sc] 105)).cell? ⟨w.heap.size, 1, none⟩ = some (.map (some gm)) := BX.cell 1
  have HB := Lib.hid b1
  clear BX hM h hx hv b1
  generalize decide (x ∈ livesI zs) = V at *
  go_enter Try.func63, Try.ntmps63
  go_wp2
  go_ret
  exact ⟨rfl, HB.out.alloc (by have := HB.out.size; omega) _⟩

set_option maxHeartbeats 1000000 in
theorem stepIs_any (W S : Option Addr) (n c q sc gm N : Nat) (ws zs : List Int) (co : Int → Int) (x k : Int) (w : World) (hx : (Lit.int .i64 x).wf = true) (h : MkS w W S n q gm N ws zs co) :
    Calls Try.prog 64 #[.agg #[.slice W n c, .map (some gm), .slice S q sc], .int .i64 x, .int .i64 k] w fun e w' => e = .returned (.bool (isC zs co x k)) ∧ Below w.heap.size w w' := by
  have b1 := (Below.refl _ w).alloc (Nat.le_refl _) (.cells #[.slice W n c, .map (some gm), .slice S q sc] 105)
  have BX := Box.new w 105 #[.slice W n c, .map (some gm), .slice S q sc]
  have hM := h.next b1
  have hlk := hM.map.lookOk objT hx
  rw [mobOf_isSome] at hlk
  have d1 : (w.alloc (.cells #[.slice W n c, .map (some gm), .slice S q sc] 105)).cell? ⟨w.heap.size, 1, none⟩ = some (.map (some gm)) := BX.cell 1
  have HB := Lib.hid b1
  by_cases hin : x ∈ livesI zs
  · rw [mobOf_in hin, show decide (x ∈ livesI zs) = true by simpa using hin] at hlk
    unfold mobV at hlk
    simp only [Option.getD_some] at hlk
    have HV : Hid ((co x == k) = isC zs co x k) := by
      show _ = _
      unfold isC
      rw [Bool.eq_iff_iff]
      simp [hin]
    clear BX hM h hx b1 hin
    generalize vR (nth zs x.toNat) = R at *
    generalize co x = C at *
    go_enter Try.func64, Try.ntmps64
    go_wp2
    go_ret
    exact ⟨by rw [← HV.out]; rfl, HB.out.alloc (by have := HB.out.size; omega) _⟩
  · rw [mobOf_none hin, show decide (x ∈ livesI zs) = false by simpa using hin] at hlk
    simp only [Option.getD_none] at hlk
    have HV : Hid (false = isC zs co x k) := by
      show _ = _
      unfold isC
      simp [hin]
    clear BX hM h hx b1 hin
    go_enter Try.func64, Try.ntmps64
    go_wp2
    go_ret
    exact ⟨by rw [← HV.out]; rfl, HB.out.alloc (by have := HB.out.size; omega) _⟩

set_option maxHeartbeats 1000000 in
theorem stepSet_any (W S : Option Addr) (n c q sc gm N : Nat) (ws zs : List Int) (co : Int → Int) (x k : Int) (w : World) (hN : N < maxLen) (hx : x ∈ livesI zs) (h : MkS w W S n q gm N ws zs co) :
    Calls Try.prog 65 #[.agg #[.slice W n c, .map (some gm), .slice S q sc], .int .i64 x, .int .i64 k] w fun e w' => e = .returned (.tuple #[]) ∧ OnlyM gm w w' ∧ MkS w' W S n q gm (N + 1) ws zs (paintC co [x] k) := by
  have hxw := lives_wf h.big hx
  have hgm := h.map.lt
  have b1 := (Below.refl _ w).alloc (Nat.le_refl _) (.cells #[.slice W n c, .map (some gm), .slice S q sc] 105)
  have BX := Box.new w 105 #[.slice W n c, .map (some gm), .slice S q sc]
  have hlk := (h.next b1).map.look objT hxw
  rw [mobOf_in hx] at hlk
  unfold mobV at hlk
  simp only [Option.getD_some] at hlk
  have hpt := put_paint (co := co) (c := k) hx
  have d1 : (w.alloc (.cells #[.slice W n c, .map (some gm), .slice S q sc] 105)).cell? ⟨w.heap.size, 1, none⟩ = some (.map (some gm)) := BX.cell 1
  have HM := Lib.hid h
  have HPT := Lib.hid hpt
  clear BX b1 h hpt hx
  generalize vR (nth zs x.toNat) = R at *
  generalize co x = C at *
  go_enter Try.func65, Try.ntmps65
  go_wp2_with (at_mapUpdate; refine wpList_store_mapV objT _ rfl _ _ _ rfl rfl rfl rfl (?_ : MapV Try.prog .i64 3 _ gm N (mobOf zs co)) hN hxw ?_)
  · exact (HM.out.map.alloc _).alloc _
  intro w' hm hg
  have b2 : Below w.heap.size w ((w.alloc (.cells #[.slice W n c, .map (some gm), .slice S q sc] 105)).alloc (.cells #[.int .i64 R, .int .i64 k] 113)) := ((Below.refl _ w).alloc (Nat.le_refl _) _).alloc (by simp) _
  have HO : Hid (OnlyM gm w w') := (OnlyM.of_below b2).trans hg
  rw [HPT.out] at hm
  have HR := Lib.hid (HM.out.only HO.out hm)
  clear hm hg b2 HPT hlk d1
  go_wp2
  refine bodyPost_end (v := .tuple #[]) (by simp [results, Try.results65, go_sem]) rfl ⟨rfl, HO.out, HR.out⟩

set_option maxHeartbeats 1000000 in
theorem stepPaint_any (W S F : Option Addr) (n c q sc gm N nf cf : Nat) (ws zs fr : List Int) (co : Int → Int) (k : Int) (w : World) (hN : N + nf < maxLen) (hfr : Arr .i64 w w.heap.size F nf fr) (hin : ∀ x ∈ fr, x ∈ livesI zs) (h : MkS w W S n q gm N ws zs co) :
    Calls Try.prog 83 #[.agg #[.slice W n c, .map (some gm), .slice S q sc], .slice F nf cf, .int .i64 k] w fun e w' => e = .returned (.tuple #[]) ∧ OnlyM gm w w' ∧ MkS w' W S n q gm (N + nf) ws zs (paintC co fr k) := by
  have HNN := Lib.hid hN
  unfold maxLen at hN
  have hgm := h.map.lt
  have b1 := (Below.refl _ w).alloc (Nat.le_refl _) (.cells #[.slice W n c, .map (some gm), .slice S q sc] 105)
  have BX := Lib.hid (Box.new w 105 #[.slice W n c, .map (some gm), .slice S q sc])
  have HM := Lib.hid (h.next b1)
  have HB1 := Lib.hid b1
  have hf1 := (hfr.below b1 (Nat.le_refl _)).more b1.size
  have HF := Lib.hid hf1
  have hfl := hfr.1
  have HIN := Lib.hid hin
  clear b1 h hfr hin hf1
  go_enter Try.func83, Try.ntmps83
  go_wp2_with fail
  generalize (w.alloc (.cells #[.slice W n c, .map (some gm), .slice S q sc] 105)) = W1 at *
  go_loopw [10] (fun i wr => ∃ j : Nat, j ≤ nf ∧ i = .int .i64 j ∧ Hid (OnlyM gm W1 wr) ∧ Hid (MkS wr W S n q gm (N + j) ws zs (paintC co (fr.take j) k))) (fun i _ => nf - (intOf i).toNat)
  case atStart => exact ⟨0, Nat.zero_le _, rfl, OnlyM.refl, by rw [List.take_zero, paint_nil]; exact HM.out⟩
  case round =>
    obtain ⟨j, hj, rfl, HO, HMj⟩ := hrel
    have bx := HO.out.box BX.out (by omega)
    by_cases hlt : j < nf
    · obtain ⟨b, off, rfl, _, hcs⟩ := (HF.out.onlyM HM.out.map HO.out).2.2 (by omega)
      have hc := hcs j hlt
      have d0 : wr.cell? ⟨w.heap.size, 0, none⟩ = some (.slice W n c) := bx.cell 0
      have d1 : wr.cell? ⟨w.heap.size, 1, none⟩ = some (.map (some gm)) := bx.cell 1
      have d2 : wr.cell? ⟨w.heap.size, 2, none⟩ = some (.slice S q sc) := bx.cell 2
      have HS := Lib.hid (stepSet_any W S n c q sc gm (N + j) ws zs (paintC co (fr.take j) k) (nth fr j) k wr (by have := HNN.out; omega) (HIN.out _ (nth_mem (by omega))) HMj.out)
      rw [paint_snoc, show fr.take j ++ [nth fr j] = fr.take (j + 1) by rw [List.take_succ_eq_append_getElem (by omega), nth_get _ _ (by omega)]] at HS
      clear hcs HMj bx
      generalize nth fr j = X at *
      go_wp2_with fail
      refine HS.out.mono ?_
      rintro e w' ⟨rfl, ho, hm⟩
      have HO2 := Lib.hid (HO.out.trans ho)
      have HM2 := Lib.hid hm
      clear ho hm HS HO d0 d1 d2 hc
      go_wp2
      go_roundw
      case rel => exact ⟨j + 1, by omega, by go_num, HO2.out, HM2.out⟩
      case measure => simp [intOf]; omega
    · obtain rfl : j = nf := by omega
      have HO2 := Lib.hid ((OnlyM.of_below HB1.out).trans HO.out)
      rw [List.take_of_length_le (by omega)] at HMj
      clear bx HO
      go_wp2
      refine bodyPost_end (v := .tuple #[]) (by simp [results, Try.results83, go_sem]) rfl ⟨rfl, HO2.out, HMj.out⟩

/-- All of a list are objects. -/
def allIn (zs fr : List Int) : Bool := fr.all fun x => decide (x ∈ livesI zs)
theorem allIn_iff {zs fr : List Int} : allIn zs fr = true ↔ ∀ x ∈ fr, x ∈ livesI zs := by unfold allIn; simp
set_option maxHeartbeats 1000000 in
theorem stepHasAll_any (W S F : Option Addr) (n c q sc gm N nf cf : Nat) (ws zs fr : List Int) (co : Int → Int) (w : World) (hnf : nf ≤ maxLen) (hfr : Arr .i64 w w.heap.size F nf fr) (h : MkS w W S n q gm N ws zs co) :
    Calls Try.prog 84 #[.agg #[.slice W n c, .map (some gm), .slice S q sc], .slice F nf cf] w fun e w' => e = .returned (.bool (allIn zs fr)) ∧ Below w.heap.size w w' := by
  unfold maxLen at hnf
  have b1 := (Below.refl _ w).alloc (Nat.le_refl _) (.cells #[.slice W n c, .map (some gm), .slice S q sc] 105)
  have BX := Lib.hid (Box.new w 105 #[.slice W n c, .map (some gm), .slice S q sc])
  have HM := Lib.hid (h.next b1)
  have HB1 := Lib.hid b1
  have hf1 := (hfr.below b1 (Nat.le_refl _)).more b1.size
  have HF := Lib.hid hf1
  have hfl := hfr.1
  have hs1 : w.heap.size < (w.alloc (.cells #[.slice W n c, .map (some gm), .slice S q sc] 105)).heap.size := by simp
  have HS1 := Lib.hid hs1
  clear b1 h hfr hf1 hs1
  go_enter Try.func84, Try.ntmps84
  go_wp2_with fail
  generalize (w.alloc (.cells #[.slice W n c, .map (some gm), .slice S q sc] 105)) = W1 at *
  go_loopw [9] (fun i wr => ∃ j : Nat, j ≤ nf ∧ i = .int .i64 j ∧ Hid (Below W1.heap.size W1 wr) ∧ Hid (∀ i, i < j → nth fr i ∈ livesI zs)) (fun i _ => nf - (intOf i).toNat)
  case atStart => exact ⟨0, Nat.zero_le _, rfl, Below.refl _ _, fun i hi => absurd hi (by omega)⟩
  case round =>
    obtain ⟨j, hj, rfl, HO, HP⟩ := hrel
    have bx := BX.out.below HO.out HS1.out
    by_cases hlt : j < nf
    · have hf2 := HF.out.below HO.out (Nat.le_refl _)
      obtain ⟨b, off, rfl, _, hcs⟩ := hf2.2.2 (by omega)
      have hc := hcs j hlt
      have hmem : nth fr j ∈ fr := nth_mem (by omega)
      have hwf := HF.out.2.1 _ hmem
      have d0 : wr.cell? ⟨w.heap.size, 0, none⟩ = some (.slice W n c) := bx.cell 0
      have d1 : wr.cell? ⟨w.heap.size, 1, none⟩ = some (.map (some gm)) := bx.cell 1
      have d2 : wr.cell? ⟨w.heap.size, 2, none⟩ = some (.slice S q sc) := bx.cell 2
      have HS := Lib.hid (stepHas_any W S n c q sc gm N ws zs co (nth fr j) wr hwf (HM.out.next HO.out))
      by_cases hin : nth fr j ∈ livesI zs
      · rw [show decide (nth fr j ∈ livesI zs) = true by simpa using hin] at HS
        have HP2 : Hid (∀ i, i < j + 1 → nth fr i ∈ livesI zs) := fun i hi => by
          rcases Nat.lt_succ_iff_lt_or_eq.1 hi with h | h
          · exact HP.out i h
          · rw [h]; exact hin
        clear hcs bx hin HP hmem hwf hf2
        generalize nth fr j = X at *
        go_wp2_with fail
        refine HS.out.mono ?_
        rintro e w' ⟨rfl, ho⟩
        have HO2 := Lib.hid (HO.out.trans (ho.mono HO.out.size))
        clear ho HS HO d0 d1 d2 hc
        go_wp2
        go_roundw
        case rel => exact ⟨j + 1, by omega, by go_num, HO2.out, HP2.out⟩
        case measure => simp [intOf]; omega
      · rw [show decide (nth fr j ∈ livesI zs) = false by simpa using hin] at HS
        have HE : Hid (allIn zs fr = false) := by
          show _ = _
          rw [Bool.eq_false_iff]
          exact fun h => hin (allIn_iff.1 h _ hmem)
        clear hcs bx hin HP hmem hwf hf2
        generalize nth fr j = X at *
        go_wp2_with fail
        refine HS.out.mono ?_
        rintro e w' ⟨rfl, ho⟩
        have HO2 := Lib.hid (HB1.out.trans ((HO.out.trans (ho.mono HO.out.size)).mono HB1.out.size))
        clear ho HS HO d0 d1 d2 hc
        go_wp2
        go_ret
        exact ⟨by rw [HE.out]; rfl, HO2.out⟩
    · obtain rfl : j = nf := by omega
      have HE : Hid (allIn zs fr = true) := allIn_iff.2 fun x hx => by
        obtain ⟨i, hi, e⟩ := List.getElem_of_mem hx
        have := HP.out i (by omega)
        rwa [nth_get _ _ hi, e] at this
      have HO2 := Lib.hid (HB1.out.trans (HO.out.mono HB1.out.size))
      clear bx HO HP
      go_wp2
      go_ret
      exact ⟨by rw [HE.out]; rfl, HO2.out⟩

/-- The objects of a colour, in order. -/
def colL (zs : List Int) (co : Int → Int) (k : Int) : List Int := (livesI zs).filter fun x => isC zs co x k
theorem colL_mem {zs : List Int} {co : Int → Int} {k x : Int} : x ∈ colL zs co k ↔ x ∈ livesI zs ∧ co x = k := by
  unfold colL isC
  rw [List.mem_filter]
  simp
theorem colL_rise {zs : List Int} {co : Int → Int} {k : Int} : (colL zs co k).Pairwise (· < ·) := List.Pairwise.filter _ lives_rise
theorem colL_len {zs : List Int} {co : Int → Int} {k : Int} (h : zs.length ≤ 256) : (colL zs co k).length ≤ 256 := Nat.le_trans (List.length_filter_le _ _) (lives_len h)
/-- What colored answers. -/
def ColP (zs : List Int) (co : Int → Int) (k : Int) (w : World) (e : Ending) (w' : World) : Prop := ∃ A' c', e = .returned (.slice A' (colL zs co k).length c') ∧ Below w.heap.size w w' ∧ Arr .i64 w' w'.heap.size A' (colL zs co k).length (colL zs co k) ∧ High w.heap.size A' (colL zs co k).length ∧ SpareI .i64 3 w.heap.size w' A' c'
set_option maxHeartbeats 1000000 in
theorem stepColored_any (W S : Option Addr) (n c q sc gm N : Nat) (ws zs : List Int) (co : Int → Int) (k : Int) (w : World) (h : MkS w W S n q gm N ws zs co) :
    Calls Try.prog 60 #[.agg #[.slice W n c, .map (some gm), .slice S q sc], .int .i64 k] w (ColP zs co k w) := by
  have b1 := (Below.refl _ w).alloc (Nat.le_refl _) (.cells #[.slice W n c, .map (some gm), .slice S q sc] 105)
  have BX := Lib.hid (Box.new w 105 #[.slice W n c, .map (some gm), .slice S q sc])
  have HM := Lib.hid (h.next b1)
  have HB1 := Lib.hid b1
  obtain ⟨hql, hq256⟩ := h.qlen
  have hs1 : (w.alloc (.cells #[.slice W n c, .map (some gm), .slice S q sc] 105)).heap.size = w.heap.size + 1 := by simp
  have HS1 := Lib.hid hs1
  have e2 : (w.alloc (.cells #[.slice W n c, .map (some gm), .slice S q sc] 105)).cell? ⟨w.heap.size, 2, none⟩ = some (.slice S q sc) := BX.out.cell 2
  have HBIG := Lib.hid h.big
  clear b1 h hs1
  go_enter Try.func60, Try.ntmps60
  go_wp2_with fail
  clear e2
  generalize (w.alloc (.cells #[.slice W n c, .map (some gm), .slice S q sc] 105)) = W1 at *
  go_loopw [5, 11] (fun v i wr => ∃ j : Nat, j ≤ q ∧ i = .int .i64 j ∧ Hid (OwnF .i64 3 wr W1.heap.size v (((livesI zs).take j).filter fun x => isC zs co x k)) ∧ Hid (Below W1.heap.size W1 wr)) (fun _ i _ => q - (intOf i).toNat)
  case atStart => exact ⟨0, Nat.zero_le _, rfl, OwnF.nil, Below.refl _ _⟩
  case round =>
    obtain ⟨j, hj, rfl, HOW, HO⟩ := hrel
    have bx := BX.out.below HO.out (by have := HS1.out; omega)
    have hm := HM.out.next HO.out
    by_cases hlt : j < q
    · obtain ⟨b, off, rfl, _, hcs⟩ := hm.starts.2.2 (by omega)
      have hc := hcs j hlt
      have hmem : nth (livesI zs) j ∈ livesI zs := nth_mem (by omega)
      have d0 : wr.cell? ⟨w.heap.size, 0, none⟩ = some (.slice W n c) := bx.cell 0
      have d1 : wr.cell? ⟨w.heap.size, 1, none⟩ = some (.map (some gm)) := bx.cell 1
      have d2 : wr.cell? ⟨w.heap.size, 2, none⟩ = some (.slice (some ⟨b, off, none⟩) q sc) := bx.cell 2
      have hwf := lives_wf hm.big hmem
      have HS := Lib.hid (stepIs_any W (some ⟨b, off, none⟩) n c q sc gm N ws zs co (nth (livesI zs) j) k wr hwf hm)
      have HTK : Hid ((((livesI zs).take (j + 1)).filter fun x => isC zs co x k) = (((livesI zs).take j).filter fun x => isC zs co x k) ++ (if isC zs co (nth (livesI zs) j) k = true then [nth (livesI zs) j] else [])) := by
        show _ = _
        rw [List.take_succ_eq_append_getElem (by omega), List.filter_append, nth_get _ _ (by omega)]
        congr 1
        rw [List.filter_cons, List.filter_nil]
      have hfl : (((livesI zs).take j).filter fun x => isC zs co x k).length ≤ 256 := Nat.le_trans (List.length_filter_le _ _) (by rw [List.length_take]; omega)
      clear hcs bx hmem hm
      cases hC : isC zs co (nth (livesI zs) j) k
      · rw [hC] at HS
        have hT := HTK.out
        rw [hC] at hT
        simp only [Bool.false_eq_true, if_false, List.append_nil] at hT
        have hO1 := HOW.out
        rw [← hT] at hO1
        have HOW1 := Lib.hid hO1
        clear hC hT HTK hO1 hwf HOW
        generalize nth (livesI zs) j = X at *
        go_wp2_with fail
        refine HS.out.mono ?_
        rintro e w' ⟨rfl, ho⟩
        have HOW2 := Lib.hid (HOW1.out.below ho (Nat.le_refl _))
        have HO2 := Lib.hid (HO.out.trans (ho.mono HO.out.size))
        clear ho HS HO HOW1 d0 d1 d2 hc
        go_wp2
        go_roundw
        case rel => exact ⟨j + 1, by omega, by go_num, HOW2.out, HO2.out⟩
        case measure => simp [intOf]; omega
      · rw [hC] at HS
        have hT := HTK.out
        rw [hC] at hT
        simp only [if_true] at hT
        have HT := Lib.hid hT
        have HWF := Lib.hid hwf
        have HFL := Lib.hid hfl
        clear hC hT HTK hwf hfl
        generalize nth (livesI zs) j = X at *
        go_wp2_with fail
        refine HS.out.mono ?_
        rintro e w' ⟨rfl, ho⟩
        have hO1 := HOW.out.below ho (Nat.le_refl _)
        have HO2 := HO.out.trans (ho.mono HO.out.size)
        obtain ⟨v', w5, hrun, hO', hB'⟩ := hO1.pushB (P := Try.prog) (t := 23) (ty := 23) Try.underlying23 intI_info (by omega) (x := X) HWF.out (by have := HFL.out; omega) HO2.size
        rw [← HT.out] at hO'
        have HRN := Lib.hid hrun
        have HOW2 := Lib.hid hO'
        have HO3 := Lib.hid (HO2.trans hB')
        clear ho HS HO HOW hO1 HO2 hrun hO' hB' d0 d1 d2 hc HT HWF HFL
        go_wp2_with (at_builtin; refine wpList_append_run rfl (.tmp 19) (.tmp 21) 23 rfl rfl rfl HRN.out ?_)
        go_roundw
        case rel => exact ⟨j + 1, by omega, by go_num, HOW2.out, HO3.out⟩
        case measure => simp [intOf]; omega
    · obtain rfl : j = q := by omega
      rw [List.take_of_length_le (by omega)] at HOW
      have hO := HOW.out
      rw [show (List.filter (fun x => isC zs co x k) (livesI zs)) = colL zs co k from rfl] at hO
      obtain ⟨A', c', rfl, _, hA', hSP⟩ := hO.arr
      have HSP := Lib.hid hSP
      have HH := Lib.hid hO.own.high
      have HA := Lib.hid hA'
      have HO2 := Lib.hid (HB1.out.trans (HO.out.mono HB1.out.size))
      clear bx hm HO hO hA' HOW hSP
      unfold ColP
      obtain ⟨ln, hln⟩ : ∃ ln, (colL zs co k).length = ln := ⟨_, rfl⟩
      rw [hln] at HH HA ⊢
      have HLN := Lib.hid hln
      clear hln
      go_wp2
      go_ret
      exact ⟨A', c', by rw [HLN.out]; rfl, HO2.out, by rw [HLN.out]; exact HA.out, by rw [HLN.out]; exact HH.out.less HB1.out.size, HSP.out.less HB1.out.size⟩


/-- A list rises. -/
def riseB (l : List Int) : Bool := decide (∀ i, i < l.length - 1 → nth l i < nth l (i + 1))
theorem riseB_iff {l : List Int} : riseB l = true ↔ l.Pairwise (· < ·) := by
  unfold riseB
  rw [decide_eq_true_eq]
  constructor
  · intro h
    rw [List.pairwise_iff_getElem]
    intro i j hi hj hij
    induction j with
    | zero => omega
    | succ j ih =>
      have h1 := h j (by omega)
      rw [nth_get _ _ (by omega), nth_get _ _ hj] at h1
      rcases Nat.lt_or_ge i j with h2 | h2
      · have := ih (by omega) h2
        omega
      · obtain rfl : i = j := by omega
        exact h1
  · intro h i hi
    rw [nth_get _ _ (by omega), nth_get _ _ (by omega)]
    exact List.pairwise_iff_getElem.1 h i (i + 1) (by omega) (by omega) (by omega)

set_option maxHeartbeats 1000000 in
theorem increasing_any (A : Option Addr) (n c B : Nat) (xs : List Int) (w : World) (hn : n ≤ maxLen) (ha : Arr .i64 w B A n xs) :
    Calls Try.prog 38 #[.slice A n c] w fun e w' => e = .returned (.bool (riseB xs)) ∧ ∃ q, w.drewN q = w' := by
  unfold maxLen at hn
  have HA := Lib.hid ha
  have hl := ha.1
  clear ha
  go_enter Try.func38, Try.ntmps38
  go_wp2_with fail
  go_loopw [3] (fun i wr => ∃ k : Nat, 1 ≤ k ∧ i = .int .i64 k ∧ (∃ q, w.drewN q = wr) ∧ k ≤ n + 1 ∧ Hid (∀ i, i + 1 < k → i + 1 < n → nth xs i < nth xs (i + 1))) (fun i _ => n + 1 - (intOf i).toNat)
  case atStart => exact ⟨1, Nat.le_refl _, by go_num, ⟨0, rfl⟩, by omega, fun i hi => absurd hi (by omega)⟩
  case round =>
    obtain ⟨k, hk1, rfl, ⟨q, rfl⟩, hkn, HP⟩ := hrel
    by_cases hlt : k < n
    · obtain ⟨b, off, rfl, _, hcs⟩ := HA.out.2.2 (by omega)
      obtain ⟨j, rfl⟩ : ∃ j, k = j + 1 := ⟨k - 1, by omega⟩
      have c0 := hcs (j + 1) hlt
      have c1 := hcs j (by omega)
      have e1 : ((j + 1 : Nat) : Int) - 1 = j := by omega
      have e2 : IntKind.i64.wrap (j : Int) = j := IntWalk.i64_in _ (by omega)
      have HPN : Hid (nth xs j < nth xs (j + 1) → ∀ i, i + 1 < j + 1 + 1 → i + 1 < n → nth xs i < nth xs (i + 1)) := fun h i hi hin => by
        rcases Nat.lt_succ_iff_lt_or_eq.1 hi with h1 | h1
        · exact HP.out i h1 hin
        · obtain rfl : i = j := by omega
          exact h
      have HNO : Hid (¬ nth xs j < nth xs (j + 1) → riseB xs = false) := fun h => by
        unfold riseB
        rw [decide_eq_false_iff_not]
        exact fun h2 => h (h2 j (by omega))
      clear hcs HP
      generalize nth xs (j + 1) = X at *
      generalize nth xs j = Y at *
      have d0 : (w.drewN q).cell? ⟨b, off + (j + 1), none⟩ = some (.int .i64 X) := c0
      have d1 : (w.drewN q).cell? ⟨b, off + j, none⟩ = some (.int .i64 Y) := c1
      clear c0 c1
      obtain ⟨W, hW⟩ : ∃ W, w.drewN q = W := ⟨_, rfl⟩
      rw [hW] at d0 d1 ⊢
      have HWq := Lib.hid hW
      clear hW
      by_cases hxy : Y < X
      · have f1 : (X ≤ Y) = False := eq_false (by omega)
        have f2 : (Y ≥ X) = False := eq_false (by omega)
        have HP2 := Lib.hid (HPN.out hxy)
        clear HPN HNO hxy
        go_wp2_with fail
        go_quiet (fail)
        go_wp2
        go_roundw
        case rel => exact ⟨j + 1 + 1, by omega, by go_num, ⟨_, (by rw [← HWq.out]; exact (World.drewN_drewN w q _).symm)⟩, by omega, HP2.out⟩
        case measure => simp [intOf]; omega
      · have f1 : (X ≤ Y) = True := eq_true (by omega)
        have f2 : (Y ≥ X) = True := eq_true (by omega)
        have HN := Lib.hid (HNO.out hxy)
        clear HPN HNO hxy
        go_wp2_with fail
        go_quiet (fail)
        go_wp2
        go_ret
        exact ⟨by rw [HN.out]; rfl, _, (by rw [← HWq.out]; exact (World.drewN_drewN w q _).symm)⟩
    · have HR : Hid (riseB xs = true) := by
        show _ = _
        unfold riseB
        rw [decide_eq_true_eq]
        exact fun i hi => HP.out i (by omega) (by omega)
      clear HP
      have f0 : ((k : Int) < (n : Int)) = False := eq_false (by omega)
      go_wp2
      go_ret
      exact ⟨by rw [HR.out]; rfl, q, rfl⟩
set_option maxHeartbeats 1000000 in
theorem rises_any (A : Option Addr) (n c B : Nat) (xs : List Int) (w : World) (hn : n ≤ maxLen) (ha : Arr .i64 w B A n xs) :
    Calls Try.prog 34 #[.slice A n c] w fun e w' => e = .returned (.bool (riseB xs)) ∧ ∃ q, w.drewN q = w' := by
  unfold maxLen at hn
  have HA := Lib.hid ha
  have hl := ha.1
  clear ha
  go_enter Try.func34, Try.ntmps34
  go_wp2_with fail
  go_loopw [3] (fun i wr => ∃ k : Nat, 1 ≤ k ∧ i = .int .i64 k ∧ (∃ q, w.drewN q = wr) ∧ k ≤ n + 1 ∧ Hid (∀ i, i + 1 < k → i + 1 < n → nth xs i < nth xs (i + 1))) (fun i _ => n + 1 - (intOf i).toNat)
  case atStart => exact ⟨1, Nat.le_refl _, by go_num, ⟨0, rfl⟩, by omega, fun i hi => absurd hi (by omega)⟩
  case round =>
    obtain ⟨k, hk1, rfl, ⟨q, rfl⟩, hkn, HP⟩ := hrel
    by_cases hlt : k < n
    · obtain ⟨b, off, rfl, _, hcs⟩ := HA.out.2.2 (by omega)
      obtain ⟨j, rfl⟩ : ∃ j, k = j + 1 := ⟨k - 1, by omega⟩
      have c0 := hcs (j + 1) hlt
      have c1 := hcs j (by omega)
      have e1 : ((j + 1 : Nat) : Int) - 1 = j := by omega
      have e2 : IntKind.i64.wrap (j : Int) = j := IntWalk.i64_in _ (by omega)
      have HPN : Hid (nth xs j < nth xs (j + 1) → ∀ i, i + 1 < j + 1 + 1 → i + 1 < n → nth xs i < nth xs (i + 1)) := fun h i hi hin => by
        rcases Nat.lt_succ_iff_lt_or_eq.1 hi with h1 | h1
        · exact HP.out i h1 hin
        · obtain rfl : i = j := by omega
          exact h
      have HNO : Hid (¬ nth xs j < nth xs (j + 1) → riseB xs = false) := fun h => by
        unfold riseB
        rw [decide_eq_false_iff_not]
        exact fun h2 => h (h2 j (by omega))
      clear hcs HP
      generalize nth xs (j + 1) = X at *
      generalize nth xs j = Y at *
      have d0 : (w.drewN q).cell? ⟨b, off + (j + 1), none⟩ = some (.int .i64 X) := c0
      have d1 : (w.drewN q).cell? ⟨b, off + j, none⟩ = some (.int .i64 Y) := c1
      clear c0 c1
      obtain ⟨W, hW⟩ : ∃ W, w.drewN q = W := ⟨_, rfl⟩
      rw [hW] at d0 d1 ⊢
      have HWq := Lib.hid hW
      clear hW
      by_cases hxy : Y < X
      · have f1 : (X ≤ Y) = False := eq_false (by omega)
        have f2 : (Y ≥ X) = False := eq_false (by omega)
        have HP2 := Lib.hid (HPN.out hxy)
        clear HPN HNO hxy
        go_wp2_with fail
        go_quiet (fail)
        go_wp2
        go_roundw
        case rel => exact ⟨j + 1 + 1, by omega, by go_num, ⟨_, (by rw [← HWq.out]; exact (World.drewN_drewN w q _).symm)⟩, by omega, HP2.out⟩
        case measure => simp [intOf]; omega
      · have f1 : (X ≤ Y) = True := eq_true (by omega)
        have f2 : (Y ≥ X) = True := eq_true (by omega)
        have HN := Lib.hid (HNO.out hxy)
        clear HPN HNO hxy
        go_wp2_with fail
        go_quiet (fail)
        go_wp2
        go_ret
        exact ⟨by rw [HN.out]; rfl, _, (by rw [← HWq.out]; exact (World.drewN_drewN w q _).symm)⟩
    · have HR : Hid (riseB xs = true) := by
        show _ = _
        unfold riseB
        rw [decide_eq_true_eq]
        exact fun i hi => HP.out i (by omega) (by omega)
      clear HP
      have f0 : ((k : Int) < (n : Int)) = False := eq_false (by omega)
      go_wp2
      go_ret
      exact ⟨by rw [HR.out]; rfl, q, rfl⟩

/-! A function value with captured variables, asked of the numbers of a list alone; it may lay blocks of its own. -/
set_option maxHeartbeats 400000 in
theorem indexFnM (A : Option Addr) (n c fid : Nat) (caps : Array Value) (f : Int → Bool) (xs : List Int) (w : World) (hn : n ≤ maxLen) (hx : Arr .i64 w w.heap.size A n xs) (hcall : ∀ args wx, Sem.run Try.prog (callFunc fid args) wx = .ok (.enter fid args) wx)
    (hF : ∀ x ∈ xs, ∀ wx, Below w.heap.size w wx → Calls Try.prog fid (#[.int .i64 x] ++ caps) wx (fun e w' => e = .returned (.bool (f x)) ∧ Below wx.heap.size wx w')) :
    Calls Try.prog 79 #[.slice A n c, .func (.func fid) #[] caps] w fun e w' => (∃ r : Int, e = .returned (.int .i64 r) ∧ decide (0 ≤ r) = xs.any f) ∧ Below w.heap.size w w' := by
  unfold maxLen at hn
  have hl := hx.1
  have HF := Lib.hid hF
  have HX := Lib.hid hx
  clear hF hx
  go_enter Try.func79, Try.ntmps79
  go_wp2
  go_loopw [8] (fun i wr => ∃ k : Nat, k ≤ n ∧ i = .int .i64 k ∧ Hid (∀ j, j < k → f (nth xs j) = false) ∧ Hid (Below w.heap.size w wr)) (fun i _ => n - (intOf i).toNat)
  case atStart => exact ⟨0, Nat.zero_le _, rfl, (fun j hj => absurd hj (by omega)), Below.refl _ _⟩
  case round =>
    obtain ⟨k, hk, rfl, HE, HB⟩ := hrel
    by_cases hlt : k < n
    · obtain ⟨b, off, rfl, hbB, hcs⟩ := (HX.out.below HB.out (Nat.le_refl _)).2.2 (by omega)
      have hc := hcs k hlt
      have HC := Lib.hid (HF.out (nth xs k) (nth_mem (by omega)) wr HB.out)
      have HM : Hid (f (nth xs k) = true → xs.any f = true) := fun h => List.any_eq_true.2 ⟨_, nth_mem (by omega), h⟩
      have HEn : Hid (f (nth xs k) = false → ∀ j, j < k + 1 → f (nth xs j) = false) := fun h j hj => by
        rcases Nat.lt_succ_iff_lt_or_eq.1 hj with h1 | h1
        · exact HE.out j h1
        · rw [h1]; exact h
      clear hcs
      generalize nth xs k = X at *
      cases hf : f X
      · rw [hf] at HC
        have HN := Lib.hid (HEn.out hf)
        clear hf HM HEn
        go_wp2_with fail
        refine HC.out.mono ?_
        rintro e w1 ⟨rfl, hb1⟩
        have HB1 := Lib.hid (HB.out.trans (hb1.mono HB.out.size))
        clear hb1
        go_wp2
        go_roundw
        case rel => exact ⟨k + 1, by omega, by go_num, HN, HB1.out⟩
        case measure => simp [intOf]; omega
      · rw [hf] at HC
        have HN := Lib.hid (HM.out hf)
        clear hf HM HEn
        go_wp2_with fail
        refine HC.out.mono ?_
        rintro e w1 ⟨rfl, hb1⟩
        have HB1 := Lib.hid (HB.out.trans (hb1.mono HB.out.size))
        clear hb1
        go_wp2
        go_ret
        exact ⟨⟨_, rfl, by rw [HN.out]; simp⟩, HB1.out⟩
    · obtain rfl : k = n := by omega
      have HN : Hid (xs.any f = false) := by
        show _ = _
        rw [List.any_eq_false]
        intro x hx
        obtain ⟨j, hj, e⟩ := List.getElem_of_mem hx
        have := HE.out j (by omega)
        rw [nth_get _ _ hj, e] at this
        rw [this]; decide
      go_wp2
      go_ret
      exact ⟨⟨_, rfl, by rw [HN.out]; rfl⟩, HB.out⟩
set_option maxHeartbeats 400000 in
theorem containsFnM (A : Option Addr) (n c fid : Nat) (caps : Array Value) (f : Int → Bool) (xs : List Int) (w : World) (hn : n ≤ maxLen) (hx : Arr .i64 w w.heap.size A n xs) (hcall : ∀ args wx, Sem.run Try.prog (callFunc fid args) wx = .ok (.enter fid args) wx)
    (hF : ∀ x ∈ xs, ∀ wx, Below w.heap.size w wx → Calls Try.prog fid (#[.int .i64 x] ++ caps) wx (fun e w' => e = .returned (.bool (f x)) ∧ Below wx.heap.size wx w')) :
    Calls Try.prog 52 #[.slice A n c, .func (.func fid) #[] caps] w fun e w' => e = .returned (.bool (xs.any f)) ∧ Below w.heap.size w w' := by
  have HI := Lib.hid (indexFnM A n c fid caps f xs w hn hx hcall hF)
  clear hF hx hcall
  go_enter Try.func52, Try.ntmps52
  go_wp2_with fail
  refine HI.out.mono ?_
  rintro e w' ⟨⟨r, rfl, hr⟩, hb⟩
  have HR := Lib.hid hr
  have HB := Lib.hid hb
  clear hr HI hb
  go_wp2
  go_ret
  exact ⟨by rw [← HR.out]; rfl, HB.out⟩


/-- The white objects to which an object refers. -/
def whiteL (zs : List Int) (co : Int → Int) (t : Nat) : List Int := (named zs t).filter fun y => isC zs co y 0
theorem whiteL_mem {zs : List Int} {co : Int → Int} {t : Nat} {y : Int} : y ∈ whiteL zs co t ↔ y ∈ named zs t ∧ y ∈ livesI zs ∧ co y = 0 := by
  unfold whiteL isC
  rw [List.mem_filter, decide_eq_true_eq]
/-- What whites answers. -/
def WhiteP (zs : List Int) (co : Int → Int) (t : Nat) (w : World) (e : Ending) (w' : World) : Prop := ∃ A' m c', e = .returned (.slice A' m c') ∧ Below w.heap.size w w' ∧ Arr .i64 w' w'.heap.size A' m (whiteL zs co t)
theorem named_len {zs : List Int} {t : Nat} : (named zs t).length ≤ zs.length := by
  unfold named refWords
  rw [List.length_map, List.length_take, List.length_drop]
  omega
theorem whiteL_len {zs : List Int} {co : Int → Int} {t : Nat} : (whiteL zs co t).length ≤ zs.length := Nat.le_trans (List.length_filter_le _ _) named_len

set_option maxRecDepth 8000 in
set_option maxHeartbeats 2000000 in
theorem stepWhites_any (W S : Option Addr) (n c q sc gm N : Nat) (zs : List Int) (co : Int → Int) (t : Nat) (w : World) (hnc : n ≤ c) (hok : arErr zs = 0) (ht : (t : Int) ∈ livesI zs) (h : MkS w W S n q gm N zs zs co) :
    Calls Try.prog 86 #[.agg #[.slice W n c, .map (some gm), .slice S q sc], .int .i64 t] w (WhiteP zs co t w) := by
  have hz := h.words.2.1
  have hl := h.words.1
  have h256 := h.big
  obtain ⟨t', e', ht1, ht2, ht3, ht4, ht5, ht6, ht7, ht8, ht9⟩ := live_facts hz ht
  obtain rfl : t' = t := by omega
  clear e'
  have hst := (begins_mem ht8).2.2
  obtain ⟨R, Bd, hR, hBd, f1, f2, f3, f4, f5, f6, f7, f8⟩ := spot_facts hst hz (by omega)
  have hrl := refWords_len hst
  have hrw : refWords zs t' = (zs.drop (t' + 1)).take R := by unfold refWords; rw [hR]; rfl
  rw [hR, Int.toNat_natCast] at hrl
  have hb0 := (Below.refl _ w).alloc (Nat.le_refl _) (.cells #[.slice W n c, .map (some gm), .slice S q sc] 105)
  have hM0 := h.next hb0
  have hlk := fun q => (hM0.map.drewN q).look objT (x := (t' : Int)) (wf_i64.2 (by omega))
  rw [mobOf_in ht] at hlk
  unfold mobV at hlk
  rw [Int.toNat_natCast, hR] at hlk
  simp only [Option.getD_some] at hlk
  obtain ⟨D, hD, hD2⟩ := run_from (P := Try.prog) Try.underlying22 u64_size W n c (t' + 1) ((t' : Int) + 1) (by omega) (by omega) hnc
  obtain ⟨E, hE, hE2⟩ := run_upto (P := Try.prog) Try.underlying22 u64_size D (n - (t' + 1)) (c - (t' + 1)) R R rfl (by omega)
  have hA := hM0.words.cut2 (p := t' + 1) (q := R) (by omega) hD2 hE2
  rw [← hrw] at hA
  have HA := Lib.hid hA
  have HM := Lib.hid hM0
  have HB0 := Lib.hid hb0
  have HRL := Lib.hid hrl
  have HWF : Hid (∀ k, k < R → nth (refWords zs t') k = 0 ∨ (1 ≤ nth (refWords zs t') k ∧ nth (refWords zs t') k ≤ 256 ∧ nth (refWords zs t') k - 1 ∈ livesI zs)) := fun k hk => refs_named hz hok ht (by rw [hrl]; exact hk)
  have g1 : IntKind.i64.wrap ((t' : Int) + 1) = t' + 1 := IntWalk.i64_in _ (by omega)
  have hR2 : R ≤ 256 := by omega
  have BX := Lib.hid (Box.new w 105 #[.slice W n c, .map (some gm), .slice S q sc])
  have hs1 : w.heap.size < (w.alloc (.cells #[.slice W n c, .map (some gm), .slice S q sc] 105)).heap.size := by simp
  have HS1 := Lib.hid hs1
  clear hA hrw hrl hD2 hE2 hst h hok ht hb0 hM0 hs1 hz ht2 ht3 ht4 ht5 ht6 ht7 ht8 ht9 f1 f2 f3 f4 f5 f6 f7 f8 hR hBd
  generalize co (t' : Int) = CC at *
  unfold WhiteP
  go_enter Try.func86, Try.ntmps86
  go_wp2_with fail
  generalize (w.alloc (.cells #[.slice W n c, .map (some gm), .slice S q sc] 105)) = W1 at *
  have c0 : W1.cell? ⟨w.heap.size, 0, none⟩ = some (.slice W n c) := BX.out.cell 0
  have c1 : W1.cell? ⟨w.heap.size, 1, none⟩ = some (.map (some gm)) := BX.out.cell 1
  have hfd : ∀ w : World, (Instr.field 113 (.agg #[.int .i64 (R : Int), .int .i64 CC]) 0).run Try.prog w = .ok (.int .i64 (R : Int)) w := fun _ => by kernel_rfl
  go_quiet (fail)
  have HM2 := Lib.hid (HM.out.next (w' := W1.drewN nq) (below_drewN (Below.refl _ _) nq))
  have HB2 : Hid (Below w.heap.size w (W1.drewN nq)) := below_drewN HB0.out nq
  have BX2 : Hid (Box (W1.drewN nq) w.heap.size 105 #[.slice W n c, .map (some gm), .slice S q sc]) := BX.out
  have HS2 : Hid (w.heap.size < (W1.drewN nq).heap.size) := HS1.out
  have HA2 : Hid (Arr .u64 (W1.drewN nq) (W1.drewN nq).heap.size E R (refWords zs t')) := HA.out.drewN nq
  clear c0 c1 hlk hD hE g1 hfd HM HB0 BX HS1 HA
  generalize W1.drewN nq = W2 at *
  go_wp2_with fail
  go_loopw [5, 21] (fun v i wr => ∃ k : Nat, k ≤ R ∧ i = .int .i64 k ∧ Hid (Own .i64 3 wr W2.heap.size v (((named zs t').take k).filter fun y => isC zs co y 0)) ∧ Hid (Below W2.heap.size W2 wr)) (fun _ i _ => R - (intOf i).toNat)
  case atStart => exact ⟨0, Nat.zero_le _, rfl, Own.nil, Below.refl _ _⟩
  case round =>
    obtain ⟨k, hk, rfl, HO, HBk⟩ := hrel
    by_cases hlt : k < R
    · have hAk := HA2.out.below HBk.out (Nat.le_refl _)
      obtain ⟨b', off, rfl, _, hcs⟩ := hAk.2.2 (by omega)
      have hc := hcs k hlt
      have bx := BX2.out.below HBk.out HS2.out
      have d0 : wr.cell? ⟨w.heap.size, 0, none⟩ = some (.slice W n c) := bx.cell 0
      have d1 : wr.cell? ⟨w.heap.size, 1, none⟩ = some (.map (some gm)) := bx.cell 1
      have d2 : wr.cell? ⟨w.heap.size, 2, none⟩ = some (.slice S q sc) := bx.cell 2
      have HTK := Lib.hid (named_take (zs := zs) (t := t') (k := k) (by rw [HRL.out]; exact hlt))
      have hfl : (((named zs t').take k).filter fun y => isC zs co y 0).length ≤ 256 := Nat.le_trans (List.length_filter_le _ _) (by rw [List.length_take]; omega)
      have hX : 0 ≤ nth (refWords zs t') k ∧ nth (refWords zs t') k ≤ 256 := by
        rcases HWF.out k hlt with h1 | ⟨h1, h2, _⟩ <;> omega
      have HNM : Hid (nm (nth (refWords zs t') k) = nth (refWords zs t') k - 1) := by
        show _ = _
        unfold nm
        split <;> omega
      clear hcs hAk bx
      generalize nth (refWords zs t') k = X at *
      obtain ⟨x1, x2⟩ := hX
      have e1 : IntKind.i64.wrap X = X := IntWalk.i64_in _ (by omega)
      have e2 : IntKind.i64.wrap (X - 1) = X - 1 := IntWalk.i64_in _ (by omega)
      have HS := Lib.hid (stepIs_any W S n c q sc gm N zs zs co (X - 1) 0 wr (wf_i64.2 (by omega)) (HM2.out.next HBk.out))
      have HSN : Hid ((((named zs t').take (k + 1)).filter fun y => isC zs co y 0) = (((named zs t').take k).filter fun y => isC zs co y 0) ++ (if isC zs co (X - 1) 0 = true then [X - 1] else [])) := by
        show _ = _
        rw [HTK.out, HNM.out, List.filter_append]
        congr 1
        rw [List.filter_cons, List.filter_nil]
      cases hC : isC zs co (X - 1) 0
      · rw [hC] at HS
        have hT := HSN.out
        rw [hC] at hT
        simp only [Bool.false_eq_true, if_false, List.append_nil] at hT
        have hO1 := HO.out
        rw [← hT] at hO1
        have HO1 := Lib.hid hO1
        clear hC hT HSN hO1 HO HTK HNM
        go_wp2_with fail
        refine HS.out.mono ?_
        rintro e w' ⟨rfl, ho⟩
        have HO2 := Lib.hid (HO1.out.below ho)
        have HB3 := Lib.hid (HBk.out.trans (ho.mono HBk.out.size))
        clear ho HS HO1 HBk d0 d1 d2 hc e1 e2
        go_wp2
        go_roundw
        case rel => exact ⟨k + 1, by omega, by go_num, HO2.out, HB3.out⟩
        case measure => simp [intOf]; omega
      · rw [hC] at HS
        have hT := HSN.out
        rw [hC] at hT
        simp only [if_true] at hT
        have HT := Lib.hid hT
        have HFL := Lib.hid hfl
        have HX1 := Lib.hid x1
        have HX2 := Lib.hid x2
        clear hC hT HSN HTK HNM hfl
        go_wp2_with fail
        refine HS.out.mono ?_
        rintro e w' ⟨rfl, ho⟩
        have hO1 := HO.out.below ho
        have HB3 := HBk.out.trans (ho.mono HBk.out.size)
        obtain ⟨v', w5, hrun, hO', hB'⟩ := hO1.push (P := Try.prog) (t := 23) (ty := 23) Try.underlying23 intI_info (by omega) (x := X - 1) (wf_i64.2 (by have := HX1.out; have := HX2.out; omega)) (by have := HFL.out; omega) HB3.size
        rw [← HT.out] at hO'
        have HRN := Lib.hid hrun
        have HO2 := Lib.hid hO'
        have HB4 := Lib.hid (HB3.trans hB')
        clear ho HS HO HBk hO1 HB3 hrun hO' hB' d0 d1 d2 hc HT HFL e1 e2
        go_wp2_with (at_builtin; refine wpList_append_run rfl (.tmp 31) (.tmp 33) 23 rfl rfl rfl HRN.out ?_)
        go_roundw
        case rel => exact ⟨k + 1, by omega, by go_num, HO2.out, HB4.out⟩
        case measure => simp [intOf]; omega
    · obtain rfl : k = R := by omega
      rw [List.take_of_length_le (by unfold named; rw [List.length_map, HRL.out]; exact Nat.le_refl _)] at HO
      have hO := HO.out
      rw [show (List.filter (fun y => isC zs co y 0) (named zs t')) = whiteL zs co t' from rfl] at hO
      obtain ⟨A', c', rfl, _, hA'⟩ := hO.arr
      have HA' := Lib.hid hA'
      have HB3 := Lib.hid (HB2.out.trans (HBk.out.mono HB2.out.size))
      clear hO hA' HO HBk
      obtain ⟨ln, hln⟩ : ∃ ln, (whiteL zs co t').length = ln := ⟨_, rfl⟩
      rw [hln] at HA' ⊢
      clear hln
      go_wp2
      go_ret
      exact ⟨A', ln, c', rfl, HB3.out, HA'.out⟩
/-- A black object refers to a white one. -/
def brokenB (zs : List Int) (co : Int → Int) (l : List Int) : Bool := l.any fun x => !(whiteL zs co x.toNat).isEmpty
set_option maxHeartbeats 1000000 in
theorem stepBroken_any (W S F : Option Addr) (n c q sc gm N nf cf : Nat) (zs fr : List Int) (co : Int → Int) (w : World) (hnc : n ≤ c) (hok : arErr zs = 0) (hnf : nf ≤ maxLen) (hfr : Arr .i64 w w.heap.size F nf fr) (hin : ∀ x ∈ fr, x ∈ livesI zs) (h : MkS w W S n q gm N zs zs co) :
    Calls Try.prog 85 #[.agg #[.slice W n c, .map (some gm), .slice S q sc], .slice F nf cf] w fun e w' => e = .returned (.bool (brokenB zs co fr)) ∧ Below w.heap.size w w' := by
  have b0 := (Below.refl _ w).alloc (Nat.le_refl _) (.cells #[.slice W n c, .map (some gm), .slice S q sc] 105)
  have BX := Box.new w 105 #[.slice W n c, .map (some gm), .slice S q sc]
  have hM := h.next b0
  have hF : ∀ x ∈ fr, ∀ wx, Below (w.alloc (.cells #[.slice W n c, .map (some gm), .slice S q sc] 105)).heap.size (w.alloc (.cells #[.slice W n c, .map (some gm), .slice S q sc] 105)) wx → Calls Try.prog 101 (#[.int .i64 x] ++ #[.pointer (some ⟨w.heap.size, 0, none⟩)]) wx (fun e w' => e = .returned (.bool (!(whiteL zs co x.toNat).isEmpty)) ∧ Below wx.heap.size wx w') := by
    intro x hx wx hb
    have hl := lives_lt (hin x hx)
    obtain ⟨t, rfl⟩ : ∃ t : Nat, x = t := ⟨x.toNat, by omega⟩
    have HC := Lib.hid (stepWhites_any W S n c q sc gm N zs co t wx hnc hok (hin _ hx) (hM.next hb))
    have bx := BX.below hb BX.lt
    have d0 : wx.cell? ⟨w.heap.size, 0, none⟩ = some (.slice W n c) := bx.cell 0
    have d1 : wx.cell? ⟨w.heap.size, 1, none⟩ = some (.map (some gm)) := bx.cell 1
    have d2 : wx.cell? ⟨w.heap.size, 2, none⟩ = some (.slice S q sc) := bx.cell 2
    have HV : Hid (∀ m : Nat, (whiteL zs co t).length = m → decide (0 < m) = !(whiteL zs co (t : Int).toNat).isEmpty) := fun m hm => by
      rw [Int.toNat_natCast]
      cases hw : whiteL zs co t with
      | nil => rw [hw] at hm; subst hm; rfl
      | cons a l => rw [hw] at hm; subst hm; simp
    clear hl hx hin hM hb bx
    show Calls Try.prog 101 #[.int .i64 (t : Int), .pointer (some ⟨w.heap.size, 0, none⟩)] wx _
    unfold WhiteP at HC
    go_enter Try.func101, Try.ntmps101
    go_wp2_with fail
    refine HC.out.mono ?_
    rintro e w' ⟨A', m, c', rfl, hb', hA'⟩
    have HB' := Lib.hid hb'
    have HE := Lib.hid (HV.out m hA'.1)
    clear hb' hA' HC HV
    go_wp2
    go_ret
    exact ⟨by rw [← HE.out]; rfl, HB'.out⟩
  have HI := Lib.hid (containsFnM F nf cf 101 #[.pointer (some ⟨w.heap.size, 0, none⟩)] (fun x => !(whiteL zs co x.toNat).isEmpty) fr _ hnf ((hfr.below b0 (Nat.le_refl _)).more b0.size) Try.call101 hF)
  have HB0 := Lib.hid b0
  have HV : Hid ((fr.any fun x => !(whiteL zs co x.toNat).isEmpty) = brokenB zs co fr) := rfl
  clear hF hfr BX b0 h hM hin hok
  generalize (fr.any fun x => !(whiteL zs co x.toNat).isEmpty) = V at *
  go_enter Try.func85, Try.ntmps85
  go_wp2_with fail
  refine HI.out.mono ?_
  rintro e w' ⟨rfl, hb⟩
  have HB := Lib.hid (HB0.out.trans (hb.mono HB0.out.size))
  clear hb HI
  go_wp2
  go_ret
  exact ⟨by rw [← HV.out]; rfl, HB.out⟩

/-- The colours behind a scan. -/
def scanC (zs : List Int) (co : Int → Int) (t : Nat) : Int → Int := paintC (paintC co [(t : Int)] 2) (whiteL zs (paintC co [(t : Int)] 2) t) 1
set_option maxRecDepth 8000 in
set_option maxHeartbeats 2000000 in
theorem stepScan_any (W S : Option Addr) (n c q sc gm N : Nat) (zs : List Int) (co : Int → Int) (t : Nat) (w : World) (hN : N ≤ 1000) (hnc : n ≤ c) (hok : arErr zs = 0) (ht : (t : Int) ∈ livesI zs) (h : MkS w W S n q gm N zs zs co) :
    Calls Try.prog 62 #[.agg #[.slice W n c, .map (some gm), .slice S q sc], .int .i64 t] w fun e w' => e = .returned (.tuple #[]) ∧ OnlyM gm w w' ∧ ∃ N', N' ≤ N + 257 ∧ MkS w' W S n q gm N' zs zs (scanC zs co t) := by
  have hgm := h.map.lt
  have b1 := (Below.refl _ w).alloc (Nat.le_refl _) (.cells #[.slice W n c, .map (some gm), .slice S q sc] 105)
  have BX := Box.new w 105 #[.slice W n c, .map (some gm), .slice S q sc]
  have d0 : (w.alloc (.cells #[.slice W n c, .map (some gm), .slice S q sc] 105)).cell? ⟨w.heap.size, 0, none⟩ = some (.slice W n c) := BX.cell 0
  have d1 : (w.alloc (.cells #[.slice W n c, .map (some gm), .slice S q sc] 105)).cell? ⟨w.heap.size, 1, none⟩ = some (.map (some gm)) := BX.cell 1
  have d2 : (w.alloc (.cells #[.slice W n c, .map (some gm), .slice S q sc] 105)).cell? ⟨w.heap.size, 2, none⟩ = some (.slice S q sc) := BX.cell 2
  have HS := Lib.hid (stepSet_any W S n c q sc gm N zs zs co (t : Int) 2 _ (by unfold maxLen; omega) ht (h.next b1))
  have HB1 := Lib.hid b1
  have HBX := Lib.hid BX
  have HOK := Lib.hid hok
  have HT := Lib.hid ht
  unfold scanC
  generalize paintC co [(t : Int)] 2 = C1 at *
  clear b1 BX hok ht h
  go_enter Try.func62, Try.ntmps62
  go_wp2_with fail
  refine HS.out.mono ?_
  rintro e w2 ⟨rfl, ho, hm⟩
  have HO := Lib.hid ((OnlyM.of_below HB1.out).trans ho)
  have bx := ho.box HBX.out (by omega)
  have HBX2 := Lib.hid bx
  have HM := Lib.hid hm
  clear d0 d1 d2 ho HBX HB1 HS bx hm
  have d0 : w2.cell? ⟨w.heap.size, 0, none⟩ = some (.slice W n c) := HBX2.out.cell 0
  have d1 : w2.cell? ⟨w.heap.size, 1, none⟩ = some (.map (some gm)) := HBX2.out.cell 1
  have d2 : w2.cell? ⟨w.heap.size, 2, none⟩ = some (.slice S q sc) := HBX2.out.cell 2
  have HW := Lib.hid (stepWhites_any W S n c q sc gm (N + 1) zs C1 t w2.drew hnc HOK.out HT.out (HM.out.next (below_drewN (Below.refl _ _) 1)))
  unfold WhiteP at HW
  go_wp2_with fail
  go_region_held3 (fun w' => w'.cell? ⟨w.heap.size, 0, none⟩ = some (.slice W n c) ∧ w'.cell? ⟨w.heap.size, 1, none⟩ = some (.map (some gm)) ∧ w'.cell? ⟨w.heap.size, 2, none⟩ = some (.slice S q sc))
    (first
      | go_keep
      | exact ⟨ey.cell 0, ey.cell 1, ey.cell 2⟩
      | exact ⟨ez.cell 0, ez.cell 1, ez.cell 2⟩)
    (first
      | (go_at_call 86; refine HW.out.mono ?_; rintro e w3 ⟨A', m, c', rfl, hb3, hA3⟩; have hb3 : Below w2.heap.size w2 w3 := below_of_drew hb3; have ez := HBX2.out.below hb3 HBX2.out.lt)
      | (go_at_call 83; refine (stepPaint_any W S A' n c q sc gm (N + 1) m c' zs zs (whiteL zs C1 t) C1 1 w3 (by have h1 := hA3.1; have h2 := whiteL_len (zs := zs) (co := C1) (t := t); have h3 := HM.out.big; unfold maxLen; omega) hA3 (fun y hy => (whiteL_mem.1 hy).2.1) (HM.out.next hb3)).mono ?_; rintro e w4 ⟨rfl, ho4, hm4⟩; have ey := ho4.box ez (by omega)))
  have hlen : m ≤ 256 := by
    have h1 := hA3.1
    have h2 := whiteL_len (zs := zs) (co := C1) (t := t)
    have h3 := HM.out.big
    omega
  refine bodyPost_end (v := .tuple #[]) (by simp [results, Try.results62, go_sem]) rfl ⟨rfl, (HO.out.trans (OnlyM.of_below hb3)).trans ho4, N + 1 + m, by omega, hm4⟩

/-- What state answers. -/
def StateP (W : Option Addr) (n c : Nat) (zs : List Int) (co : Int → Int) (w : World) (e : Ending) (w' : World) : Prop := ∃ G g gc K k kc, e = .returned (.agg #[.slice W n c, .slice G g gc, .slice K k kc]) ∧ Below w.heap.size w w' ∧ Arr .i64 w' w'.heap.size G g (colL zs co 1) ∧ Arr .i64 w' w'.heap.size K k (colL zs co 2) ∧ SpareI .i64 3 w.heap.size w' G gc ∧ SpareI .i64 3 w.heap.size w' K kc
set_option maxRecDepth 8000 in
set_option maxHeartbeats 2000000 in
theorem stepState_any (W S : Option Addr) (n c q sc gm N : Nat) (ws zs : List Int) (co : Int → Int) (w : World) (h : MkS w W S n q gm N ws zs co) :
    Calls Try.prog 61 #[.agg #[.slice W n c, .map (some gm), .slice S q sc]] w (StateP W n c zs co w) := by
  have b1 := (Below.refl _ w).alloc (Nat.le_refl _) (.cells #[.slice W n c, .map (some gm), .slice S q sc] 105)
  have BX := Box.new w 105 #[.slice W n c, .map (some gm), .slice S q sc]
  have b2 := (Below.refl _ (w.alloc (.cells #[.slice W n c, .map (some gm), .slice S q sc] 105))).alloc (Nat.le_refl _) (.cells #[.slice none 0 0, .slice none 0 0, .slice none 0 0] 53)
  have BY := Box.new (w.alloc (.cells #[.slice W n c, .map (some gm), .slice S q sc] 105)) 53 #[.slice none 0 0, .slice none 0 0, .slice none 0 0]
  have hs1 : (w.alloc (.cells #[.slice W n c, .map (some gm), .slice S q sc] 105)).heap.size = w.heap.size + 1 := by simp
  rw [hs1] at BY
  have BX2 := BX.below b2 BX.lt
  have HM := Lib.hid ((h.next b1).next b2)
  have HB := Lib.hid (b1.trans (b2.mono b1.size))
  have HX := Lib.hid BX2
  have HY := Lib.hid BY
  clear b1 BX b2 BY hs1 BX2 h
  unfold StateP
  go_enter Try.func61, Try.ntmps61
  go_wp2_with fail
  generalize ((w.alloc (.cells #[.slice W n c, .map (some gm), .slice S q sc] 105)).alloc (.cells #[.slice none 0 0, .slice none 0 0, .slice none 0 0] 53)) = w2 at *
  have d0 : w2.cell? ⟨w.heap.size, 0, none⟩ = some (.slice W n c) := HX.out.cell 0
  have d1 : w2.cell? ⟨w.heap.size, 1, none⟩ = some (.map (some gm)) := HX.out.cell 1
  have d2 : w2.cell? ⟨w.heap.size, 2, none⟩ = some (.slice S q sc) := HX.out.cell 2
  have HC := Lib.hid (fun k wx (hb : Below w2.heap.size w2 wx) => stepColored_any W S n c q sc gm N ws zs co k wx (HM.out.next hb))
  unfold ColP at HC
  have hne : ¬ w.heap.size = w.heap.size + 1 := by omega
  go_region_held3 (fun w' => w'.cell? ⟨w.heap.size, 0, none⟩ = some (.slice W n c) ∧ w'.cell? ⟨w.heap.size, 1, none⟩ = some (.map (some gm)) ∧ w'.cell? ⟨w.heap.size, 2, none⟩ = some (.slice S q sc))
    (first
      | go_keep
      | exact ⟨ey.cell 0, ey.cell 1, ey.cell 2⟩
      | exact ⟨ez.cell 0, ez.cell 1, ez.cell 2⟩
      | exact ⟨eq.cell 0, eq.cell 1, eq.cell 2⟩)
    (first
      | (go_at_call 60; refine (HC.out 2 w3 hb3).mono ?_; rintro e w4 ⟨A4, c4, rfl, hb4, hA4, hi4, hp4⟩; have hb34 : Below w2.heap.size w2 w4 := hb3.trans (hb4.mono hb3.size); have ey := HX.out.below hb34 HX.out.lt; have eyy := HY.out.below hb34 HY.out.lt; have y0 : w4.cell? ⟨w.heap.size + 1, 0, none⟩ = some (.slice none 0 0) := eyy.cell 0; have y1 : w4.cell? ⟨w.heap.size + 1, 1, none⟩ = some (.slice none 0 0) := eyy.cell 1; have y2 : w4.cell? ⟨w.heap.size + 1, 2, none⟩ = some (.slice none 0 0) := eyy.cell 2; have s0 := eyy.soft 0; have s1 := eyy.soft 1; have s2 := eyy.soft 2; have eq := fun (x y z : Value) => ((ey.setOther (g := w.heap.size + 1) (by omega) 0 x).setOther (g := w.heap.size + 1) (by omega) 1 y).setOther (g := w.heap.size + 1) (by omega) 2 z)
      | (go_at_call 60; refine (HC.out 1 w2.drew (Below.refl _ _).drew).mono ?_; rintro e w3 ⟨A3, c3, rfl, hb3, hA3, hi3, hp3⟩; have hb3 : Below w2.heap.size w2 w3 := below_of_drew hb3; have ez := HX.out.below hb3 HX.out.lt))
  have hs2 : w.heap.size + 1 < w2.heap.size := HY.out.lt
  have hs3 := hb3.size
  have hi3' : High w2.heap.size A3 (colL zs co 1).length := hi3
  have ha3 := (hA3.below hb4 (Nat.le_refl _)).more hb4.size
  obtain ⟨g, hg⟩ : ∃ g, (colL zs co 1).length = g := ⟨_, rfl⟩
  obtain ⟨k, hk⟩ : ∃ k, (colL zs co 2).length = k := ⟨_, rfl⟩
  rw [hg] at ha3 hi3' ⊢
  rw [hk] at hA4 hi4 ⊢
  have r3 := ((ha3.setOther hi3' (g := w.heap.size + 1) hs2 0 (.slice W n c)).setOther hi3' (g := w.heap.size + 1) hs2 1 (.slice A3 g c3)).setOther hi3' (g := w.heap.size + 1) hs2 2 (.slice A4 k c4)
  have r4 := ((hA4.setOther hi4 (g := w.heap.size + 1) (by omega) 0 (.slice W n c)).setOther hi4 (g := w.heap.size + 1) (by omega) 1 (.slice A3 g c3)).setOther hi4 (g := w.heap.size + 1) (by omega) 2 (.slice A4 k c4)
  have r5 : Below w.heap.size w (((w4.setCell ⟨w.heap.size + 1, 0, none⟩ (.slice W n c)).setCell ⟨w.heap.size + 1, 1, none⟩ (.slice A3 g c3)).setCell ⟨w.heap.size + 1, 2, none⟩ (.slice A4 k c4)) := below_set (below_set (below_set (HB.out.trans (hb34.mono HB.out.size)) (by omega) _ _) (by omega) _ _) (by omega) _ _
  have eb1 := eyy.set 0 (.slice W n c)
  have eb2 := eb1.set 1 (.slice A3 g c3)
  have p3 := ((((show SpareI .i64 3 w2.heap.size w3 A3 c3 from hp3).below hb4 (Nat.le_refl _)).box eyy (by decide) 0 (.slice W n c)).box eb1 (by decide) 1 (.slice A3 g c3)).box eb2 (by decide) 2 (.slice A4 k c4)
  have p4 := ((hp4.box eyy (by decide) 0 (.slice W n c)).box eb1 (by decide) 1 (.slice A3 g c3)).box eb2 (by decide) 2 (.slice A4 k c4)
  have P3 := Lib.hid (p3.less (Nat.le_of_lt (Nat.lt_trans (Nat.lt_succ_self _) hs2)))
  have P4 := Lib.hid (p4.less (show w.heap.size ≤ w3.heap.size by omega))
  clear p3 p4 eb1 eb2
  have BY := ((eyy.set 0 (.slice W n c)).set 1 (.slice A3 g c3)).set 2 (.slice A4 k c4)
  have hws : w4.heap.size = (((w4.setCell ⟨w.heap.size + 1, 0, none⟩ (.slice W n c)).setCell ⟨w.heap.size + 1, 1, none⟩ (.slice A3 g c3)).setCell ⟨w.heap.size + 1, 2, none⟩ (.slice A4 k c4)).heap.size := by simp [World.setCell]
  rw [hws] at r3 r4
  rename_i hHeld
  clear hHeld eq y0 y1 y2 s0 s1 s2
  generalize (((w4.setCell ⟨w.heap.size + 1, 0, none⟩ (.slice W n c)).setCell ⟨w.heap.size + 1, 1, none⟩ (.slice A3 g c3)).setCell ⟨w.heap.size + 1, 2, none⟩ (.slice A4 k c4)) = W5 at *
  have x0 : W5.cell? ⟨w.heap.size + 1, 0, none⟩ = some (.slice W n c) := BY.cell 0
  have x1 : W5.cell? ⟨w.heap.size + 1, 1, none⟩ = some (.slice A3 g c3) := BY.cell 1
  have x2 : W5.cell? ⟨w.heap.size + 1, 2, none⟩ = some (.slice A4 k c4) := BY.cell 2
  have R3 := Lib.hid r3
  have R4 := Lib.hid r4
  have R5 := Lib.hid r5
  clear r3 r4 r5 BY hws ha3 hA4 hA3 hi3 hi4 hi3' hp3 hp4 hb3 hb4 hb34 ez ey eyy
  go_wp2
  refine bodyPost_ret (v := .agg #[.slice W n c, .slice A3 g c3, .slice A4 k c4]) (by simp [results, Try.results61, go_sem, x0, x1, x2]) rfl ⟨A3, g, c3, A4, k, c4, rfl, R5.out, R3.out, R4.out, P3.out, P4.out⟩


theorem Own.onlyM {k : IntKind} {e : TypeId} {w w' : World} {base g N : Nat} {v : Value} {xs : List Int} {P : Program} {q : IntKind} {kk : TypeId} {f : Int → Option Value} (h : Own k e w base v xs) (hm : MapV P q kk w g N f) (ho : OnlyM g w w') : Own k e w' base v xs := by
  obtain ⟨⟨hl, h2⟩, hw⟩ := h
  refine ⟨⟨hl, h2.imp id ?_⟩, hw⟩
  rintro ⟨g', cap, cur, rfl, hg, hh, r⟩
  refine ⟨g', cap, cur, rfl, hg, ?_, r⟩
  have hne : g' ≠ g := by
    rintro rfl
    obtain ⟨D, ⟨es, c, h1, _⟩, _⟩ := hm
    rw [hh] at h1
    cases h1
  rw [World.grownBy.block ho g' (by
    rcases Nat.lt_or_ge g' w.heap.size with h | h
    · exact h
    · rw [Array.getElem?_eq_none h] at hh; cases hh) (by intro e; injection e with e; exact hne e)]
  exact hh
theorem OwnF.onlyM {k : IntKind} {e : TypeId} {w w' : World} {base g N : Nat} {v : Value} {xs : List Int} {P : Program} {q : IntKind} {kk : TypeId} {f : Int → Option Value} (h : OwnF k e w base v xs) (hm : MapV P q kk w g N f) (ho : OnlyM g w w') : OwnF k e w' base v xs := by
  rcases h with h | ⟨g', c, sp, h1, h2, h3, h4, hW⟩
  · exact .inl h
  · refine .inr ⟨g', c, sp, h1, h2, h3, h4, ?_, hW.2⟩
    have hne : g' ≠ g := by
      rintro rfl
      obtain ⟨D, ⟨es, c, h1, _⟩, _⟩ := hm
      have hh := hW.1
      rw [hh] at h1
      cases h1
    exact (World.grownBy.block ho g' hW.lt (by intro e; injection e with e; exact hne e)).trans hW.1
theorem Own.less {k : IntKind} {e : TypeId} {w : World} {base base' : Nat} {v : Value} {xs : List Int} (h : Own k e w base v xs) (hb : base' ≤ base) : Own k e w base' v xs := by
  obtain ⟨⟨hl, h2⟩, hw⟩ := h
  refine ⟨⟨hl, h2.imp id ?_⟩, hw⟩
  rintro ⟨g', cap, cur, hv, hg, r⟩
  exact ⟨g', cap, cur, hv, Nat.le_trans hb hg, r⟩
/-- No marking. -/
def markZ : Value := .agg #[.slice none 0 0, .map none, .slice none 0 0]
/-- What load answers. -/
def LoadP (n : Nat) (zs : List Int) (w : World) (e : Ending) (w' : World) : Prop := Below w.heap.size w w' ∧
  ((arErr zs ≠ 0 ∧ e = .returned (.tuple #[markZ, .int .i64 (arErr zs)])) ∨
   (arErr zs = 0 ∧ ∃ W c gm S q sc N, e = .returned (.tuple #[.agg #[.slice W n c, .map (some gm), .slice S q sc], .int .i64 0]) ∧ MkS w' W S n q gm N zs zs (fun _ => 0) ∧ N ≤ 256 ∧ w.heap.size ≤ gm ∧ OwnF .u64 55 w' w.heap.size (.slice W n c) zs))

/-- What holds while load goes over the spots. -/
structure TLoadI (zs : List Int) (w w2 : World) (B1 gm gh : Nat) (W : Option Addr) (n c : Nat) (A2 : Option Addr) (m k : Nat) (v : Value) (wr : World) : Prop where
  res : Box wr w.heap.size 105 #[.slice none 0 0, .map none, .slice none 0 0]
  mkb : Box wr gh 105 #[.slice W n c, .map (some gm), v]
  map : MapV Try.prog .i64 3 wr gm k (mobTo zs k)
  own : Own .i64 3 wr (gh + 1) v (liveTo zs k)
  spots : ArrG spotC 5 wr B1 A2 m (spList zs)
  below : Below w.heap.size w wr
  later : Below gm w2 wr
  o1 : w.heap.size < B1
  o2 : B1 ≤ gm
  o3 : gm < gh
section
variable {zs : List Int} {w w2 wr wr' : World} {B1 gm gh n c m k : Nat} {W A2 : Option Addr} {v v' : Value}
theorem TLoadI.next (h : TLoadI zs w w2 B1 gm gh W n c A2 m k v wr) (hb : Below wr.heap.size wr wr') : TLoadI zs w w2 B1 gm gh W n c A2 m k v wr' :=
  ⟨h.res.below hb h.res.lt, h.mkb.below hb h.mkb.lt, h.map.below hb h.map.lt, h.own.below hb, h.spots.below hb (by have := h.map.lt; have := h.o2; omega), h.below.trans (hb.mono h.below.size), h.later.trans (hb.mono (Nat.le_of_lt h.map.lt)), h.o1, h.o2, h.o3⟩
theorem TLoadI.free (h : TLoadI zs w w2 B1 gm gh W n c A2 m k v wr) (hk : k < (begins zs 0).length) (hf : vF (nth zs (st zs k)) = true) : TLoadI zs w w2 B1 gm gh W n c A2 m (k + 1) v wr :=
  ⟨h.res, h.mkb, by rw [mobTo_no hk hf]; exact h.map.mono (by omega), by rw [liveTo_no hk hf]; exact h.own, h.spots, h.below, h.later, h.o1, h.o2, h.o3⟩
/-- The object goes into the map. -/
theorem TLoadI.put (h : TLoadI zs w w2 B1 gm gh W n c A2 m k v wr) (hg : wr.grownBy wr' (some gm)) :
    Box wr' w.heap.size 105 #[.slice none 0 0, .map none, .slice none 0 0] ∧ Box wr' gh 105 #[.slice W n c, .map (some gm), v] ∧ Own .i64 3 wr' (gh + 1) v (liveTo zs k) ∧ ArrG spotC 5 wr' B1 A2 m (spList zs) ∧ Below w.heap.size w wr' ∧ Below gm w2 wr' := by
  have o1 := h.o1
  have o2 := h.o2
  have o3 := h.o3
  have hl := h.map.lt
  have hs := h.below.size
  exact ⟨h.res.grown hg (by omega), h.mkb.grown hg (by omega), h.own.keepB fun i hi hlt => hg.block i hlt (by intro e; injection e; omega), h.spots.below (grown_below hg h.o2 (by omega)) (Nat.le_refl _), h.below.trans (grown_below hg (by omega) hs), h.later.trans (grown_below hg (Nat.le_refl _) (Nat.le_of_lt hl))⟩
/-- The word goes into the list. -/
theorem TLoadI.live {wq : World} (o1 : w.heap.size < B1) (o2 : B1 ≤ gm) (o3 : gm < gh) (hk : k < (begins zs 0).length) (hf : vF (nth zs (st zs k)) = false) (hr : Box wr w.heap.size 105 #[.slice none 0 0, .map none, .slice none 0 0]) (hh : Box wr gh 105 #[.slice W n c, .map (some gm), v])
    (hm : MapV Try.prog .i64 3 wr gm (k + 1) (putV (mobTo zs k) (st zs k : Int) (mobV zs (fun _ => 0) (st zs k : Int)))) (hs : ArrG spotC 5 wr B1 A2 m (spList zs)) (hb : Below w.heap.size w wr) (hl : Below gm w2 wr) (hq : Below (gh + 1) wr wq) (ho : Own .i64 3 wq (gh + 1) v' (liveTo zs k ++ [(st zs k : Int)])) :
    TLoadI zs w w2 B1 gm gh W n c A2 m (k + 1) v' (wq.setCell ⟨gh, 2, none⟩ v') := by
  have hz := hb.size
  refine ⟨(hr.below hq (by omega)).setOther (by omega) _ _, ?_, ?_, ?_, ?_, ?_, ?_, o1, o2, o3⟩
  · have := (hh.below hq (by omega)).set 2 v'
    exact this
  · rw [mobTo_yes hk hf]
    exact (hm.below hq (by omega)).setOther (by omega) _ _
  · rw [liveTo_yes hk hf]
    exact ho.keepB fun i hi _ => heap_setOther wq (by omega) _ _
  · have h1 := hs.below hq (by omega)
    exact h1.keep fun p hp => by
      have := heap_setOther wq (g := gh) (b := p.block) (by omega) 2 v'
      simp [World.cell?, this]
  · exact below_set (hb.trans (hq.mono (by omega))) (by omega) _ _
  · exact below_set (hl.trans (hq.mono (by omega))) (by omega) _ _
end

set_option maxRecDepth 8000 in
set_option maxHeartbeats 2000000 in
theorem stepLoad_bad (A : Option Addr) (n c : Nat) (zs : List Int) (w : World) (hn : n ≤ maxLen) (hnc : n ≤ c) (ha : Arr .u64 w w.heap.size A n zs) (h : arErr zs ≠ 0) :
    Calls Try.prog 82 #[.slice A n c] w (LoadP n zs w) := by
  have b0 := (Below.refl _ w).alloc (Nat.le_refl _) (.cells #[.slice none 0 0, .map none, .slice none 0 0] 105)
  have HC := Lib.hid (Check_any A n c zs _ hn hnc ((ha.below b0 (Nat.le_refl _)).more b0.size))
  unfold LoadP
  have H0 := Lib.hid h
  clear ha b0
  generalize arErr zs = E at *
  have hb : (E != 0) = true := by simpa using h
  clear h
  go_enter Try.func82, Try.ntmps82
  go_wp2_with fail
  refine HC.out.mono ?_
  rintro e w1 ⟨rfl, b1⟩
  obtain ⟨bx, b1⟩ := boxed_call b1
  have s0 := bx.soft 0
  have s1 := bx.soft 1
  have s2 := bx.soft 2
  have d0 : w1.cell? ⟨w.heap.size, 0, none⟩ = some (.slice none 0 0) := bx.cell 0
  have d1 : w1.cell? ⟨w.heap.size, 1, none⟩ = some (.map none) := bx.cell 1
  have d2 : w1.cell? ⟨w.heap.size, 2, none⟩ = some (.slice none 0 0) := bx.cell 2
  have BX := Lib.hid bx
  have HB := Lib.hid b1
  clear bx b1 HC
  go_wp2
  have BY := ((BX.out.set 0 (.slice none 0 0)).set 1 (.map none)).set 2 (.slice none 0 0)
  have HB' := below_set (below_set (below_set HB.out (Nat.le_refl _) 0 (.slice none 0 0)) (Nat.le_refl _) 1 (.map none)) (Nat.le_refl _) 2 (.slice none 0 0)
  generalize (((w1.setCell ⟨w.heap.size, 0, none⟩ (.slice none 0 0)).setCell ⟨w.heap.size, 1, none⟩ (.map none)).setCell ⟨w.heap.size, 2, none⟩ (.slice none 0 0)) = W at *
  have x0 : W.cell? ⟨w.heap.size, 0, none⟩ = some (.slice none 0 0) := BY.cell 0
  have x1 : W.cell? ⟨w.heap.size, 1, none⟩ = some (.map none) := BY.cell 1
  have x2 : W.cell? ⟨w.heap.size, 2, none⟩ = some (.slice none 0 0) := BY.cell 2
  refine bodyPost_ret (v := .tuple #[.agg #[.slice none 0 0, .map none, .slice none 0 0], .int .i64 E]) (by simp [results, Try.results82, go_sem, x0, x1, x2]) rfl ⟨HB', .inl ⟨H0.out, rfl⟩⟩

set_option maxRecDepth 8000 in
set_option maxHeartbeats 4000000 in
theorem stepLoad_good (A : Option Addr) (n c : Nat) (zs : List Int) (w : World) (hn : n ≤ maxLen) (hnc : n ≤ c) (ha : Arr .u64 w w.heap.size A n zs) (h : arErr zs = 0) :
    Calls Try.prog 82 #[.slice A n c] w (LoadP n zs w) := by
  obtain ⟨hsp, hrf⟩ := arErr_zero h
  obtain ⟨h256, hfine⟩ := spErr_zero hsp
  have hl := ha.1
  have hL := spList_ok hsp
  have hbl := begins_len (zs := zs) (a := 0)
  have hlen : (spList zs).length = (begins zs 0).length := by rw [hL]; simp
  obtain ⟨m, hm⟩ : ∃ m, (begins zs 0).length = m := ⟨_, rfl⟩
  rw [hm] at hlen hbl
  have hspot : ∀ k, k < m → nthG (spList zs) k = spOf zs (st zs k) ∧ st zs k < n := fun k hk => by
    have h1 := begins_mem (st_mem (zs := zs) (k := k) (by omega))
    exact ⟨by rw [hL, nthG_map _ _ _ (by omega)]; rfl, by omega⟩
  have b0 := (Below.refl _ w).alloc (Nat.le_refl _) (.cells #[.slice none 0 0, .map none, .slice none 0 0] 105)
  have HC := Lib.hid (Check_any A n c zs _ hn hnc ((ha.below b0 (Nat.le_refl _)).more b0.size))
  rw [h] at HC
  have HA0 := Lib.hid ha
  have HAR := Lib.hid h
  have HE := Lib.hid hsp
  have HS := Lib.hid hspot
  have HM := Lib.hid hm
  have HL256 := Lib.hid h256
  clear b0 ha h hsp hrf hfine hL hspot hm h256
  have hmm := @run_makeMap Try.prog
  have hbl2 : m ≤ 256 := by have := HL256.out; omega
  have hn256 : n ≤ 256 := by have := HL256.out; omega
  unfold LoadP
  go_enter Try.func82, Try.ntmps82
  go_wp2_with fail
  refine HC.out.mono ?_
  rintro e w0 ⟨rfl, b1⟩
  obtain ⟨bx, b1⟩ := boxed_call b1
  have HB0 := Lib.hid b1
  have BX0 := Lib.hid bx
  have HSP := Lib.hid (Spots_any A n c zs w0 hn ((HA0.out.below b1 (Nat.le_refl _)).more b1.size))
  clear b1 bx HC
  go_wp2_with fail
  refine HSP.out.mono ?_
  rintro e w1 ⟨A2, c2, rfl, b1, hc2, hA2, hi2⟩
  rw [HE.out]
  rw [hlen] at hA2 hc2 hi2 ⊢
  have HB1 := Lib.hid (HB0.out.trans (b1.mono HB0.out.size))
  have BX := Lib.hid (BX0.out.below b1 BX0.out.lt)
  have HA2 := Lib.hid hA2
  have HCL := Lib.hid (cloneWordsF A n c zs w1 (by omega) ((HA0.out.below HB1.out (Nat.le_refl _)).more HB1.out.size))
  clear b1 HSP hA2 hc2 hi2 BX0 HB0
  unfold ClonedOf at HCL
  go_wp2_with fail
  refine HCL.out.mono ?_
  rintro e w2 ⟨W, cw, rfl, hO, b2⟩
  have HO := Lib.hid hO
  have HB2 := Lib.hid (HB1.out.trans (b2.mono HB1.out.size))
  have BX2 := Lib.hid (BX.out.below b2 BX.out.lt)
  have HA3 := Lib.hid (HA2.out.below b2 (Nat.le_refl _))
  have HO1 : Hid (w.heap.size < w1.heap.size) := BX.out.lt
  have HO2 : Hid (w1.heap.size ≤ w2.heap.size) := b2.size
  clear b2 hO HCL HB1 BX HA2
  go_wp2_with fail
  have bm : Below w2.heap.size w2 (w2.alloc (.map #[] 0)) := (Below.refl _ w2).alloc (Nat.le_refl _) _
  have hI : TLoadI zs w w2 w1.heap.size w2.heap.size (w2.heap.size + 1) W n cw A2 m 0 (.slice none 0 0) ((w2.alloc (.map #[] 0)).alloc (.cells #[.slice W n cw, .map (some w2.heap.size), .slice none 0 0] 105)) := by
    have e1 : (w2.alloc (.map #[] 0)).heap.size = w2.heap.size + 1 := by simp
    refine ⟨(BX2.out.below bm BX2.out.lt).alloc _, by have := Box.new (w2.alloc (.map #[] 0)) 105 #[.slice W n cw, .map (some w2.heap.size), .slice none 0 0]; rwa [e1] at this, ?_, Own.nil, HA3.out.below (bm.alloc (by omega) _) HO2.out, (HB2.out.trans (bm.mono HB2.out.size)).alloc (by have := HB2.out.size; omega) _, bm.alloc (by omega) _, HO1.out, HO2.out, by omega⟩
    rw [mobTo_zero]
    exact (MapV.made Try.prog .i64 3 w2).alloc _
  have HI := Lib.hid hI
  clear hI bm hmm
  generalize ((w2.alloc (.map #[] 0)).alloc (.cells #[.slice W n cw, .map (some w2.heap.size), .slice none 0 0] 105)) = W1 at *
  obtain ⟨gm, hgm⟩ : ∃ g, w2.heap.size = g := ⟨_, rfl⟩
  rw [hgm] at HI
  rw [hgm]
  obtain ⟨gh, hgh⟩ : ∃ g, gm + 1 = g := ⟨_, rfl⟩
  rw [hgh] at HI
  rw [hgh]
  have HGM := Lib.hid hgm
  clear hgm hgh
  go_loopw [31] (fun i wr => ∃ (k : Nat) (v : Value), k ≤ m ∧ i = .int .i64 k ∧ Hid (TLoadI zs w w2 w1.heap.size gm gh W n cw A2 m k v wr)) (fun i _ => m - (intOf i).toNat)
  case atStart => exact ⟨0, _, by omega, rfl, HI⟩
  case round =>
    obtain ⟨k, v, hk, rfl, hI⟩ := hrel
    clear HI BX2 HA3
    by_cases hlt : k < m
    · obtain ⟨hs, hsn⟩ := HS.out k hlt
      have hkb : k < (begins zs 0).length := by rw [HM.out]; exact hlt
      obtain ⟨b, off, rfl, _, q0, q1, q2, q3, q4⟩ := hI.out.spots.spot hlt
      rw [hs] at q0 q1 q2 q3 q4
      unfold spOf at q0 q1 q2 q3 q4
      simp only at q0 q1 q2 q3 q4
      cases hf : vF (nth zs (st zs k))
      · have HF := Lib.hid hf
        have HKB := Lib.hid hkb
        have HGW : Hid (gm < wr.heap.size) := hI.out.map.lt
        rw [hf] at q4
        have hnx := Lib.hid (hI.out.next ((Below.refl _ wr).alloc (Nat.le_refl _) (.cells #[.int .i64 (st zs k), .int .i64 (vR (nth zs (st zs k))), .int .i64 (vB (nth zs (st zs k))), .int .i64 (vT (nth zs (st zs k))), .bool false] 81)))
        have HBX := Lib.hid (Box.new wr 81 #[.int .i64 (st zs k), .int .i64 (vR (nth zs (st zs k))), .int .i64 (vB (nth zs (st zs k))), .int .i64 (vT (nth zs (st zs k))), .bool false])
        have HHV : Hid (mobV zs (fun _ => 0) (st zs k : Int) = .agg #[.int .i64 (vR (nth zs (st zs k))), .int .i64 0]) := by
          show _ = _
          unfold mobV; rw [Int.toNat_natCast]
        clear hf hs hI hkb
        obtain ⟨s, hse⟩ : ∃ s, st zs k = s := ⟨_, rfl⟩
        have HSE := Lib.hid hse
        rw [hse] at q0 q1 q2 q3 hnx hsn HBX HHV
        clear hse
        generalize vR (nth zs s) = R at *
        generalize vB (nth zs s) = Bd at *
        generalize vT (nth zs s) = T at *
        have e5 : (wr.alloc (.cells #[.int .i64 s, .int .i64 R, .int .i64 Bd, .int .i64 T, .bool false] 81)).cell? ⟨gh, 1, none⟩ = some (.map (some gm)) := hnx.out.mkb.cell 1
        have hws : (Lit.int .i64 (s : Int)).wf = true := wf_i64.2 (by omega)
        have HK : Hid (∀ w3, MapV Try.prog .i64 3 w3 gm (k + 1) (putV (mobTo zs k) (s : Int) (.agg #[.int .i64 R, .int .i64 0])) → (wr.alloc (.cells #[.int .i64 s, .int .i64 R, .int .i64 Bd, .int .i64 T, .bool false] 81)).grownBy w3 (some gm) →
            w3.cell? ⟨wr.heap.size, 0, none⟩ = some (.int .i64 s) ∧ w3.cell? ⟨gh, 2, none⟩ = some v ∧ ∃ S q sc w4, Sem.run Try.prog (Builtin.append_ #[23, 23] 23 #[v, .slice (some ⟨w3.heap.size, 0, none⟩) 1 1]) (w3.alloc (.cells #[.int .i64 s] 3)) = .ok (.slice S q sc) w4 ∧
              w4.cell? ⟨gh, 2, none⟩ = some v ∧ w4.frozen? ⟨gh, 2, none⟩ = false ∧ Hid (TLoadI zs w w2 w1.heap.size gm gh W n cw (some ⟨b, off, none⟩) m (k + 1) (.slice S q sc) (w4.setCell ⟨gh, 2, none⟩ (.slice S q sc)))) := by
          intro w3 hm3 hg3
          obtain ⟨r1, r2, r3, r4, r5, r6⟩ := hnx.out.put hg3
          obtain ⟨v', w4, hrun, hO', hB'⟩ := r3.push (P := Try.prog) (t := 23) (ty := 23) Try.underlying23 intI_info (by omega) (x := (s : Int)) hws (by have := liveTo_len (zs := zs) k; omega) r2.lt
          obtain ⟨S, sc, rfl, _, _⟩ := hO'.arr
          refine ⟨(HBX.out.grown hg3 (by have := HGW.out; omega)).cell 0, r2.cell 2, S, _, sc, w4, hrun, (r2.below hB' (by omega)).cell 2, (r2.below hB' (by omega)).soft 2, ?_⟩
          refine TLoadI.live hnx.out.o1 hnx.out.o2 hnx.out.o3 HKB.out HF.out r1 r2 ?_ r4 r5 r6 hB' ?_
          · rw [HSE.out, HHV.out]; exact hm3
          · rw [HSE.out]; exact hO'
        have HMP := Lib.hid hnx.out.map
        clear hnx HBX HHV HKB HF HGW HSE
        go_wp2_with (first
          | (at_mapUpdate; refine wpList_store_mapV objT _ rfl _ _ _ rfl rfl rfl rfl HMP.out (by unfold maxLen; omega) hws ?_; intro w3 hm3 hg3; obtain ⟨f0, f1, S, q, sc, w4, hrun, f2, f3, HN⟩ := HK.out w3 hm3 hg3; have HR := Lib.hid hrun; clear hrun hm3 hg3 e5 q0 q1 q2 q3 q4 HMP HK)
          | (at_builtin; refine wpList_append_run rfl (.tmp 48) (.tmp 51) 23 rfl rfl rfl HR.out ?_))
        go_roundw
        case rel => exact ⟨k + 1, _, by omega, by go_num, HN.out⟩
        case measure => simp [intOf]; omega
      · have HF := Lib.hid hf
        rw [hf] at q4
        have hnx := Lib.hid ((hI.out.next ((Below.refl _ wr).alloc (Nat.le_refl _) (.cells #[.int .i64 (st zs k), .int .i64 (vR (nth zs (st zs k))), .int .i64 (vB (nth zs (st zs k))), .int .i64 (vT (nth zs (st zs k))), .bool true] 81))).free hkb hf)
        clear hf hs hI hkb
        generalize vR (nth zs (st zs k)) = R at *
        generalize vB (nth zs (st zs k)) = Bd at *
        generalize vT (nth zs (st zs k)) = T at *
        generalize st zs k = s at *
        go_wp2
        go_roundw
        case rel => exact ⟨k + 1, v, by omega, by go_num, hnx.out⟩
        case measure => simp [intOf]; omega
    · obtain rfl : k = m := by omega
      clear hlt hlen
      have HX : Hid (mobTo zs k = mobOf zs (fun _ => 0)) := Lib.hid (by rw [← HM.out]; exact mobTo_all)
      have HXL : Hid (liveTo zs k = livesI zs) := Lib.hid (by rw [← HM.out]; exact liveTo_all)
      have hO := hI.out.own
      rw [HXL.out] at hO
      obtain ⟨S, sc, rfl, _, hS⟩ := hO.arr
      have s0 := hI.out.res.soft 0
      have s1 := hI.out.res.soft 1
      have s2 := hI.out.res.soft 2
      have d0 : wr.cell? ⟨w.heap.size, 0, none⟩ = some (.slice none 0 0) := hI.out.res.cell 0
      have d1 : wr.cell? ⟨w.heap.size, 1, none⟩ = some (.map none) := hI.out.res.cell 1
      have d2 : wr.cell? ⟨w.heap.size, 2, none⟩ = some (.slice none 0 0) := hI.out.res.cell 2
      have h0 : wr.cell? ⟨gh, 0, none⟩ = some (.slice W n cw) := hI.out.mkb.cell 0
      have h1 : wr.cell? ⟨gh, 1, none⟩ = some (.map (some gm)) := hI.out.mkb.cell 1
      have h2 : wr.cell? ⟨gh, 2, none⟩ = some (.slice S (livesI zs).length sc) := hI.out.mkb.cell 2
      have HSA := Lib.hid hS
      have HSH := Lib.hid hO.high
      have HMP := Lib.hid hI.out.map
      rw [HX.out] at HMP
      have HOW : Hid (OwnF .u64 55 wr w1.heap.size (.slice W n cw) zs) := HO.out.below hI.out.later (by rw [HGM.out]; exact Nat.le_refl _)
      clear hS hO
      obtain ⟨q, hq⟩ : ∃ q, (livesI zs).length = q := ⟨_, rfl⟩
      rw [hq] at h2 HSA HSH hI
      have HQ := Lib.hid hq
      clear hq
      go_wp2
      have BY := ((hI.out.res.set 0 (.slice W n cw)).set 1 (.map (some gm))).set 2 (.slice S q sc)
      have HB' := below_set (below_set (below_set hI.out.below (Nat.le_refl _) 0 (.slice W n cw)) (Nat.le_refl _) 1 (.map (some gm))) (Nat.le_refl _) 2 (.slice S q sc)
      have o1 := hI.out.o1
      have o2 := hI.out.o2
      have o3 := hI.out.o3
      have hmp := ((HMP.out.setOther (g := w.heap.size) (by omega) 0 (.slice W n cw)).setOther (g := w.heap.size) (by omega) 1 (.map (some gm))).setOther (g := w.heap.size) (by omega) 2 (.slice S q sc)
      have hsa := ((HSA.out.setOther HSH.out (g := w.heap.size) (by omega) 0 (.slice W n cw)).setOther HSH.out (g := w.heap.size) (by omega) 1 (.map (some gm))).setOther HSH.out (g := w.heap.size) (by omega) 2 (.slice S q sc)
      have how : OwnF .u64 55 (((wr.setCell ⟨w.heap.size, 0, none⟩ (.slice W n cw)).setCell ⟨w.heap.size, 1, none⟩ (.map (some gm))).setCell ⟨w.heap.size, 2, none⟩ (.slice S q sc)) w1.heap.size (.slice W n cw) zs :=
        ((HOW.out.keepB fun i hi _ => heap_setOther wr (g := w.heap.size) (by omega) 0 (.slice W n cw)).keepB fun i hi _ => heap_setOther _ (g := w.heap.size) (by omega) 1 (.map (some gm))).keepB fun i hi _ => heap_setOther _ (g := w.heap.size) (by omega) 2 (.slice S q sc)
      have hws : wr.heap.size = (((wr.setCell ⟨w.heap.size, 0, none⟩ (.slice W n cw)).setCell ⟨w.heap.size, 1, none⟩ (.map (some gm))).setCell ⟨w.heap.size, 2, none⟩ (.slice S q sc)).heap.size := by simp [World.setCell]
      rw [hws] at hsa
      generalize (((wr.setCell ⟨w.heap.size, 0, none⟩ (.slice W n cw)).setCell ⟨w.heap.size, 1, none⟩ (.map (some gm))).setCell ⟨w.heap.size, 2, none⟩ (.slice S q sc)) = W5 at *
      have x0 : W5.cell? ⟨w.heap.size, 0, none⟩ = some (.slice W n cw) := BY.cell 0
      have x1 : W5.cell? ⟨w.heap.size, 1, none⟩ = some (.map (some gm)) := BY.cell 1
      have x2 : W5.cell? ⟨w.heap.size, 2, none⟩ = some (.slice S q sc) := BY.cell 2
      obtain ⟨W', c', hv, _, hW⟩ := how.own.arr
      injection hv with e1 e2 e3
      subst e1 e3
      rw [← e2] at hW
      refine bodyPost_ret (v := .tuple #[.agg #[.slice W n cw, .map (some gm), .slice S q sc], .int .i64 0]) (by simp [results, Try.results82, go_sem, x0, x1, x2]) rfl ⟨HB', .inr ⟨HAR.out, W, cw, gm, S, q, sc, k, rfl, ⟨hW, hmp, hsa, HL256.out⟩, hbl2, by omega, how.lessF (by omega)⟩⟩
theorem stepLoad_any (A : Option Addr) (n c : Nat) (zs : List Int) (w : World) (hn : n ≤ maxLen) (hnc : n ≤ c) (ha : Arr .u64 w w.heap.size A n zs) :
    Calls Try.prog 82 #[.slice A n c] w (LoadP n zs w) := by
  by_cases h : arErr zs = 0
  · exact stepLoad_good A n c zs w hn hnc ha h
  · exact stepLoad_bad A n c zs w hn hnc ha h

end Go.Proofs.Ythdnfocemchgjaa
