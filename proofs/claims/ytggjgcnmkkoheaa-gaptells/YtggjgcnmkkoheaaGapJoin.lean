/-
  Contract of gap.Join, for every argument.
-/
import Derived.Test.YtggjgcnmkkoheaaGapPut
namespace Go.Proofs.Ytggjgcnmkkoheaa
open Go.RowKit

theorem joinTo_len {l : List (Int × Int)} : ∀ {zs : List Int}, (∀ r ∈ l, 0 ≤ r.1 ∧ 0 ≤ r.2 ∧ r.1 + r.2 ≤ zs.length) → (joinTo zs l).length = zs.length := by
  unfold joinTo
  induction l with
  | nil => intro zs _; rfl
  | cons r l ih =>
    intro zs h
    have h0 := h r List.mem_cons_self
    have e : (emptyL zs r.1.toNat r.2.toNat).length = zs.length := emptyL_len (by omega)
    rw [List.foldl_cons, ih (fun s hs => by rw [e]; exact h s (List.mem_cons_of_mem _ hs)), e]
theorem joinTo_snoc (zs : List Int) (l : List (Int × Int)) (r : Int × Int) : joinTo zs (l ++ [r]) = emptyL (joinTo zs l) r.1.toNat r.2.toNat := by
  unfold joinTo
  rw [List.foldl_append]; rfl
theorem gaps_pos {zs : List Int} {r : Int × Int} (h : r ∈ gapsL zs) : 0 ≤ r.1 ∧ 1 ≤ r.2 ∧ r.1 + r.2 ≤ zs.length := by
  obtain ⟨i, hi, rfl⟩ := List.getElem_of_mem h
  have : 1 ≤ (nthG (gapsL zs) i).2 ∧ 0 ≤ (nthG (gapsL zs) i).1 ∧ (nthG (gapsL zs) i).1 + (nthG (gapsL zs) i).2 ≤ zs.length := (runs_ok (freeAt zs) zs.length).pos i hi
  rw [nthG_get _ _ hi] at this
  exact ⟨this.2.1, this.1, this.2.2⟩
theorem take_next {α : Type} [Inhabited α] (l : List α) (k : Nat) (h : k < l.length) : l.take (k + 1) = l.take k ++ [nthG l k] := by
  rw [nthG_get _ _ h, List.take_succ_eq_append_getElem]
theorem joinL_len (zs : List Int) : (joinL zs).length = zs.length := joinTo_len fun r hr => by have := gaps_pos hr; omega

/-- What Join answers. -/
def JoinP (zs : List Int) (w : World) (e : Ending) (w' : World) : Prop := ∃ A k c, e = .returned (.tuple #[.slice A k c, .int .i64 (arErr zs)]) ∧ Below w.heap.size w w' ∧
  ((arErr zs ≠ 0 ∧ A = none ∧ k = 0 ∧ c = 0) ∨ (arErr zs = 0 ∧ k = zs.length ∧ Fresh 42 w' w.heap.size A k c (joinL zs)))

set_option maxHeartbeats 400000 in
theorem join_bad (A : Option Addr) (n c : Nat) (zs : List Int) (w : World) (hn : n ≤ maxLen) (hnc : n ≤ c) (ha : Arr .u64 w w.heap.size A n zs) (h : arErr zs ≠ 0) :
    Calls Try.prog 10 #[.slice A n c] w (JoinP zs w) := by
  have HC := Lib.hid (Gaps_any A n c zs w hn hnc ha)
  have hb : (arErr zs != 0) = true := by simpa using h
  unfold JoinP
  unfold GapsP at HC
  clear ha hn hnc
  have HH := Lib.hid h
  generalize arErr zs = E at *
  clear h
  go_enter Try.func10, Try.ntmps10
  go_wp2_with fail
  refine HC.out.mono ?_
  rintro e w1 ⟨A2, m, c2, rfl, hb1, _, _⟩
  have HB1 := Lib.hid hb1
  clear hb1 HC
  go_wp2
  go_ret2
  exact ⟨none, 0, 0, rfl, HB1.out, .inl ⟨HH.out, rfl, rfl, rfl⟩⟩

/-- What holds while Join goes over the gaps. -/
structure JoinI (zs : List Int) (l : List (Int × Int)) (m n : Nat) (w w1 : World) (b x i : Value) (k : Nat) (wr : World) : Prop where
  le : k ≤ m
  ix : i = .int .i64 k
  er : x = .int .i64 0
  arr : ∃ A c, b = .slice A n c ∧ Fresh 42 wr w.heap.size A n c (joinTo zs (l.take k))
  below : Below w1.heap.size w1 wr

set_option maxHeartbeats 1000000 in
set_option maxRecDepth 8000 in
theorem join_good (A : Option Addr) (n c : Nat) (zs : List Int) (w : World) (hnc : n ≤ c) (ha : Arr .u64 w w.heap.size A n zs) (h : arErr zs = 0) :
    Calls Try.prog 10 #[.slice A n c] w (JoinP zs w) := by
  have hl := ha.1
  have h256 := (spErr_zero (arErr_zero h).1).1
  have HC := Lib.hid (Gaps_any A n c zs w (by unfold maxLen; omega) hnc ha)
  have HCl := Lib.hid (fun w ha => slicesClone_fresh A n c zs w (by omega) ha)
  have HRel := Lib.hid (fun A c p L ys w hL hp ha => release_ok A n c p L ys w (by omega) hL hp ha)
  unfold GapsP at HC
  unfold ClonedF at HCl
  unfold PutP at HRel
  rw [h] at HC
  have H := Lib.hid h
  have hpos := fun r (hr : r ∈ gapsL zs) => gaps_pos hr
  have hjl := fun k => joinTo_len (l := (gapsL zs).take k) (zs := zs) (fun r hr => by have := gaps_pos (List.mem_of_mem_take hr); omega)
  have hjoin : joinTo zs (gapsL zs) = joinL zs := rfl
  have HPOS := Lib.hid hpos
  have HJL := Lib.hid hjl
  have HJ := Lib.hid hjoin
  have HA := Lib.hid ha
  obtain ⟨l, hgl⟩ : ∃ l, gapsL zs = l := ⟨_, rfl⟩
  rw [hgl] at HC HPOS HJL HJ
  have hm := runsTo_len (f := freeAt zs) zs.length
  change (gapsL zs).length ≤ _ at hm
  rw [hgl] at hm
  clear h hpos hjl hjoin hgl ha
  go_enter Try.func10, Try.ntmps10
  go_wp2_with fail
  refine HC.out.mono ?_
  rintro e w1 ⟨A2, m, c2, rfl, hb1, _, hr⟩
  rcases hr with ⟨hx, _⟩ | ⟨_, hml, hA2⟩
  · exact absurd rfl hx
  have HML := Lib.hid hml
  have hm256 : m ≤ 256 := by omega
  have HB1 := Lib.hid hb1
  have HA1 := Lib.hid ((HA.out.below hb1 (Nat.le_refl _)).more hb1.size)
  clear hb1 HC hml hm
  go_wp2_with fail
  refine (HCl.out _ HA1.out).mono ?_
  rintro e w2 ⟨A3, c3, rfl, hF, hb2⟩
  have hA2 := (hA2.below hb2 (Nat.le_refl _)).more hb2.size
  have HF := Lib.hid (hF.less HB1.out.size)
  have HB2 := Lib.hid (HB1.out.trans (hb2.mono HB1.out.size))
  clear hF hb2 HCl
  go_wp2_with fail
  go_loopw [6, 5, 21] (fun b x i wr => ∃ k, JoinI zs l m n w w2 b x i k wr) (fun _ _ i _ => m - (intOf i).toNat)
  case atStart => exact ⟨0, Nat.zero_le _, rfl, rfl, ⟨A3, c3, rfl, HF.out⟩, Below.refl _ _⟩
  case round =>
    obtain ⟨k, hI⟩ := hrel
    obtain ⟨hk, rfl, rfl, ⟨A4, c4, rfl, hF4⟩, hB⟩ := hI
    by_cases hlt : k < m
    · obtain ⟨b, off, rfl, hbB, d0, d1⟩ := (hA2.below hB (Nat.le_refl _)).run hlt
      have hmem : nthG l k ∈ l := by rw [nthG_get _ _ (by have := HML.out; omega)]; exact List.getElem_mem _
      obtain ⟨r1, r2, r3⟩ := HPOS.out _ hmem
      obtain ⟨p, hp⟩ := Int.eq_ofNat_of_zero_le r1
      obtain ⟨L, hL⟩ := Int.eq_ofNat_of_zero_le (by omega : 0 ≤ (nthG l k).2)
      rw [hp] at d0
      rw [hL] at d1
      have hstep : joinTo zs (l.take (k + 1)) = putL (joinTo zs (l.take k)) p L (fWord L) := by
        rw [take_next l k (by have := HML.out; omega), joinTo_snoc, hp, hL]
        unfold emptyL
        rw [Int.toNat_natCast, Int.toNat_natCast, if_neg (by omega)]
      have HST := Lib.hid hstep
      have HLn : Hid ((putL (joinTo zs (l.take k)) p L (fWord L)).length = n) := by
        show _ = _
        rw [← hstep, HJL.out (k + 1)]; omega
      have HR1 := Lib.hid (fun w ha => HRel.out A4 c4 p L (joinTo zs (l.take k)) w (by omega) (by omega) ha)
      rw [HLn.out] at HR1
      have HA4 := Lib.hid hF4.arr
      have HBr := Lib.hid hB
      have hbw : b < wr.heap.size := Nat.lt_of_lt_of_le hbB hB.size
      clear hF4 hB hA2 r1 r2 r3 hp hL hmem hstep hbB
      have bw := (Below.refl wr.heap.size wr).alloc (Nat.le_refl _) (.cells #[.int .i64 p, .int .i64 L] 38)
      have HBW := Lib.hid bw
      clear bw
      go_wp2_with fail
      refine (HR1.out _ ((HA4.out.below HBW.out (Nat.le_refl _)).more HBW.out.size)).mono ?_
      rintro e w3 ⟨g, rfl, hg, hW, hb3⟩
      have HB3 := Lib.hid (HBW.out.trans (hb3.mono HBW.out.size))
      have HF3 : Hid (Fresh 42 w3 w.heap.size (some ⟨g, 0, none⟩) n n (joinTo zs (l.take (k + 1)))) := by
        have hg' : w.heap.size ≤ g := Nat.le_trans HB2.out.size (Nat.le_trans HBr.out.size (Nat.le_trans HBW.out.size hg))
        have := Fresh.of hW hg' (by rw [HLn.out]; unfold maxLen; omega)
        rw [HLn.out] at this
        rw [HST.out]
        exact this
      clear hg hW hb3 d0 d1 hbw
      go_wp2
      go_roundw
      case rel => exact ⟨k + 1, by omega, by go_num, rfl, ⟨_, _, rfl, HF3.out⟩, HBr.out.trans (HB3.out.mono HBr.out.size)⟩
      case measure => simp [intOf]; omega
    · obtain rfl : k = m := by omega
      have hall : l.take k = l := by rw [HML.out]; exact List.take_length
      rw [hall, HJ.out] at hF4
      have HF4 := Lib.hid hF4
      have HB := Lib.hid (HB2.out.trans (hB.mono HB2.out.size))
      clear hF4 hB hA2 hall
      go_wp2
      go_ret2
      exact ⟨A4, n, c4, by rw [H.out]; rfl, HB.out, .inr ⟨H.out, hl.symm, HF4.out⟩⟩

theorem Join_any (A : Option Addr) (n c : Nat) (zs : List Int) (w : World) (hn : n ≤ maxLen) (hnc : n ≤ c) (ha : Arr .u64 w w.heap.size A n zs) :
    Calls Try.prog 10 #[.slice A n c] w (JoinP zs w) := by
  by_cases h : arErr zs = 0
  · exact join_good A n c zs w hnc ha h
  · exact join_bad A n c zs w hn hnc ha h
end Go.Proofs.Ytggjgcnmkkoheaa
