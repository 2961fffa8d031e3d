/-
  The walk of RootNamed: whatever the arguments and the memory, the call returns true and changes nothing that was there.
-/
import Derived.Test.YtdieokpfkojoiaaRootS
namespace Go.Proofs.Ytdieokpfkojoiaa
open Go.RowKit

theorem named_two : namedL [2, -1] = [2] := by
  refine risesI_ext (namedL_rises _) (List.pairwise_singleton _ _) fun a => ?_
  rw [namedL_mem]
  simp only [List.mem_cons, List.not_mem_nil, or_false]
  constructor
  · rintro ⟨h | h, h2⟩
    · exact h
    · exact absurd h h2
  · rintro rfl
    exact ⟨.inl rfl, by decide⟩

set_option maxHeartbeats 400000 in
theorem roots_any (w : World) : Calls Try.prog 27 #[] w fun e w' => e = .returned (.bool true) ∧ Below w.heap.size w w' := by
  have hW := whole_new .i64 3 w [2, -1] (by intro z hz; simp at hz; rcases hz with rfl | rfl <;> decide)
  have ha := hW.arr hW.lt
  have hN := rootNamed_ok (some ⟨w.heap.size, 0, none⟩) 2 2 3 [2, -1] _ ha (by decide)
  rw [named_two] at hN
  have HN := Lib.hid hN
  have HB := Lib.hid ((Below.refl _ w).alloc (Nat.le_refl _) (.cells (([2, -1] : List Int).map (Value.int .i64)).toArray 3))
  clear hN ha hW
  simp only [List.map_cons, List.map_nil] at HN HB
  go_enter Try.func27, Try.ntmps27
  go_wp2_with fail
  refine HN.out.mono ?_
  rintro e w1 ⟨A, m, c, rfl, hm, hO, hb⟩
  simp only [List.length_cons, List.length_nil] at hm
  subst hm
  have HB1 := Lib.hid (HB.out.trans (hb.mono HB.out.size))
  obtain ⟨_, _, ha⟩ := hO.arrM
  obtain ⟨b, off, rfl, _, hc⟩ := ha.2.2 (by omega)
  have hc0 : w1.cell? ⟨b, off, none⟩ = some (.int .i64 2) := hc 0 (by omega)
  clear hO hb ha hc HN HB
  have c1 : ((2 : Int) == 2) = true := by decide
  go_wp2
  go_ret
  exact ⟨rfl, HB1.out⟩

/-- Is the number not in the list, or no word? -/
def missR (zs : List Int) (x : Int) : Bool := !decide (x ∈ zs) || decide (x < 0)
/-- Is it a word, and not in the list? -/
def missL (zs : List Int) (x : Int) : Bool := decide (0 ≤ x) && !decide (x ∈ zs)

set_option maxHeartbeats 400000 in
theorem missR_any (x : Int) (g : Nat) (A : Option Addr) (k c B : Nat) (zs : List Int) (w : World) (hk : k ≤ maxLen) (hc : w.cell? ⟨g, 0, none⟩ = some (.slice A k c)) (ha : Arr .i64 w B A k zs) :
    Calls Try.prog 29 #[.int .i64 x, .pointer (some ⟨g, 0, none⟩)] w fun e w' => e = .returned (.bool (missR zs x)) ∧ Below w.heap.size w w' := by
  have HC := Lib.hid (containsR_any A k c B x zs w hk ha)
  unfold missR
  clear ha hk
  by_cases h1 : x ∈ zs
  · rw [show decide (x ∈ zs) = true by simpa using h1] at HC ⊢
    clear h1
    by_cases h2 : x < 0
    · have c2 : (x < 0) = True := eq_true h2
      rw [show (!true || decide (x < 0)) = true by simp [h2]]
      clear h2
      go_enter Try.func29, Try.ntmps29
      go_wp2_with fail
      refine HC.out.mono ?_
      rintro e w1 ⟨rfl, rfl⟩
      go_wp2
      go_ret
      exact ⟨rfl, Below.refl _ _⟩
    · have c2 : (x < 0) = False := eq_false h2
      rw [show (!true || decide (x < 0)) = false by simp; omega]
      clear h2
      go_enter Try.func29, Try.ntmps29
      go_wp2_with fail
      refine HC.out.mono ?_
      rintro e w1 ⟨rfl, rfl⟩
      go_wp2
      go_ret
      exact ⟨rfl, Below.refl _ _⟩
  · rw [show decide (x ∈ zs) = false by simpa using h1] at HC ⊢
    rw [show (!false || decide (x < 0)) = true by simp]
    clear h1
    go_enter Try.func29, Try.ntmps29
    go_wp2_with fail
    refine HC.out.mono ?_
    rintro e w1 ⟨rfl, rfl⟩
    go_wp2
    go_ret
    exact ⟨rfl, Below.refl _ _⟩

set_option maxHeartbeats 400000 in
theorem missL_any (x : Int) (g : Nat) (A : Option Addr) (k c B : Nat) (zs : List Int) (w : World) (hk : k ≤ maxLen) (hc : w.cell? ⟨g, 0, none⟩ = some (.slice A k c)) (ha : Arr .i64 w B A k zs) :
    Calls Try.prog 31 #[.int .i64 x, .pointer (some ⟨g, 0, none⟩)] w fun e w' => e = .returned (.bool (missL zs x)) ∧ Below w.heap.size w w' := by
  have HC := Lib.hid (containsR_any A k c B x zs w hk ha)
  unfold missL
  clear ha hk
  by_cases h2 : 0 ≤ x
  · have c2 : (0 ≤ x) = True := eq_true h2
    rw [show decide (0 ≤ x) = true by simpa using h2, Bool.true_and]
    clear h2
    generalize decide (x ∈ zs) = R at *
    go_enter Try.func31, Try.ntmps31
    go_wp2_with fail
    refine HC.out.mono ?_
    rintro e w1 ⟨rfl, rfl⟩
    go_wp2
    go_ret
    exact ⟨rfl, Below.refl _ _⟩
  · have c2 : (0 ≤ x) = False := eq_false h2
    rw [show decide (0 ≤ x) = false by simpa using h2, Bool.false_and]
    clear h2
    go_enter Try.func31, Try.ntmps31
    go_wp2
    go_ret
    exact ⟨rfl, Below.refl _ _⟩

theorem named_noR {n : Int} {zs : List Int} (h : rootE n zs = 0) : (namedL zs).any (missR zs) = false := by
  rw [List.any_eq_false]
  intro x hx
  obtain ⟨h1, h2⟩ := namedL_mem.1 hx
  have := (rootE_ok.1 h).2.2 x h1
  simp [missR, h1]
  omega
theorem named_noL (zs : List Int) : zs.any (missL (namedL zs)) = false := by
  rw [List.any_eq_false]
  intro x hx
  simp only [missL, Bool.and_eq_true, decide_eq_true_eq, Bool.not_eq_true', decide_eq_false_iff_not]
  rintro ⟨h1, h2⟩
  exact h2 (namedL_mem.2 ⟨hx, by omega⟩)
theorem set_back {zs : List Int} {s : Nat} {v : Int} (h : s < zs.length) : (zs.set s v).set s (nth zs s) = zs := by
  rw [List.set_set, nth_get _ _ h, List.set_getElem_self]
theorem setE_back {n slot v : Int} {zs : List Int} (h : setE n slot v zs = 0) : setE n slot (nth zs slot.toNat) (zs.set slot.toNat v) = 0 := by
  obtain ⟨h0, hs, hv⟩ := setE_ok.1 h
  obtain ⟨h1, h2, h3⟩ := rootE_ok.1 h0
  refine setE_ok.2 ⟨rootE_ok.2 ⟨h1, by rw [List.length_set]; exact h2, fun x hx => ?_⟩, by rw [List.length_set]; exact hs, h3 _ (nth_mem (by omega))⟩
  rcases List.mem_or_eq_of_mem_set hx with h4 | h4
  · exact h3 x h4
  · rw [h4]; exact hv

set_option maxHeartbeats 1000000 in
theorem rootNamed_walk (A : Option Addr) (k c : Nat) (n slot v : Int) (zs : List Int) (w : World) (hk : k ≤ maxLen) (ha : Arr .i64 w w.heap.size A k zs) :
    Calls Try.prog 5 #[.slice A k c, .int .i64 n, .int .i64 slot, .int .i64 v] w fun e w' => e = .returned (.bool true) ∧ Below w.heap.size w w' := by
  have hb0 := (Below.refl _ w).alloc (Nat.le_refl _) (.cells #[.slice A k c] 45)
  have bx0 := Box.new w 45 #[.slice A k c]
  have HB0 := Lib.hid hb0
  have HX0 := Lib.hid bx0
  have HA := Lib.hid ha
  have HK := Lib.hid hk
  have hz0 : (w.alloc (.cells #[.slice A k c] 45)).heap.size = w.heap.size + 1 := by simp
  have HZ0 := Lib.hid hz0
  clear hb0 bx0 ha hk hz0
  go_enter Try.func5, Try.ntmps5
  go_wp2_with fail
  refine (roots_any _).mono ?_
  rintro e w1 ⟨rfl, hb1⟩
  have HB1 := Lib.hid (HB0.out.trans (hb1.mono HB0.out.size))
  have HX1 := Lib.hid (HX0.out.below hb1 (by rw [HZ0.out]; omega))
  have c1 : w1.cell? ⟨w.heap.size, 0, none⟩ = some (.slice A k c) := HX1.out.cell 0
  have HA1 := Lib.hid ((HA.out.below HB1.out (Nat.le_refl _)).more HB1.out.size)
  clear hb1
  by_cases hE : rootE n zs = 0
  · go_wp2_with fail
    refine (rootNamed_ok A k c n zs _ HA1.out hE).mono ?_
    rintro e w2 ⟨A2, m, c2, rfl, hm, hO2, hb2⟩
    obtain ⟨hn, h32, hin⟩ := rootE_ok.1 hE
    have hkl := HA.out.1
    have hm32 : m ≤ 32 := by have := namedL_len zs; omega
    have HE := Lib.hid hE
    have HM := Lib.hid hm
    have HLK := Lib.hid hkl
    have HIN := Lib.hid hin
    have HN := Lib.hid hn
    rw [hkl] at h32
    have HX2 := Lib.hid (HX1.out.below hb2 HX1.out.lt)
    have HB2 := Lib.hid (HB1.out.trans (hb2.mono HB1.out.size))
    have HO2 := Lib.hid hO2.arrM.2.2
    have hmx : m ≤ maxLen := by unfold maxLen; omega
    have HMX := Lib.hid hmx
    have HK32 := Lib.hid h32
    have HM32 := Lib.hid hm32
    clear hE hm hkl hin hn hb2 hO2 c1 hmx h32 hm32
    have HX3 := Lib.hid (HX2.out.alloc (.cells #[.slice A2 m c2] 45))
    have HY3 := Lib.hid (Box.new w2 45 #[.slice A2 m c2])
    have hb3 := (Below.refl _ w2).alloc (Nat.le_refl _) (.cells #[.slice A2 m c2] 45)
    have HB3 := Lib.hid (HB2.out.trans (hb3.mono HB2.out.size))
    have HO3 := Lib.hid ((HO2.out.below hb3 (Nat.le_refl _)).more hb3.size)
    clear hb3
    go_wp2_with fail
    refine (isSorted_yes A2 m c2 _ (namedL zs) _ HMX.out HO3.out ((namedL_rises zs).imp (by intro a b h; omega))).mono ?_
    rintro e w4 ⟨rfl, q, rfl⟩
    have HX4 : Hid (Box ((w2.alloc (.cells #[.slice A2 m c2] 45)).drewN q) w.heap.size 45 #[.slice A k c]) := HX3.out
    have HY4 : Hid (Box ((w2.alloc (.cells #[.slice A2 m c2] 45)).drewN q) w2.heap.size 45 #[.slice A2 m c2]) := HY3.out
    have HB4 := Lib.hid (below_drewN HB3.out q)
    have HO4 := Lib.hid (HO3.out.drewN q)
    clear HX3 HY3 HB3 HO3 HX2 HB2 HO2 HX1 HX0 HB1 HA1
    change Hid (Arr .i64 _ ((w2.alloc (.cells #[.slice A2 m c2] 45)).drewN q).heap.size A2 m (namedL zs)) at HO4
    generalize (w2.alloc (.cells #[.slice A2 m c2] 45)).drewN q = w4 at *
    generalize w2.heap.size = g2 at *
    have c4 : w4.cell? ⟨w.heap.size, 0, none⟩ = some (.slice A k c) := HX4.out.cell 0
    have d4 : w4.cell? ⟨g2, 0, none⟩ = some (.slice A2 m c2) := HY4.out.cell 0
    have HA4 := Lib.hid ((HA.out.below HB4.out (Nat.le_refl _)).more HB4.out.size)
    go_wp2_with fail
    refine (containsFnR A2 m c2 29 #[.pointer (some ⟨w.heap.size, 0, none⟩)] (missR zs) (namedL zs) _ HMX.out HO4.out (fun args wx => Try.call29 args wx) (fun x wx hb => missR_any x w.heap.size A k c _ zs wx HK.out ((HX4.out.below hb HX4.out.lt).cell 0) (HA4.out.below hb (Nat.le_refl _)))).mono ?_
    rintro e w5 ⟨rfl, hb5⟩
    rw [named_noR HE.out]
    have HX5 := Lib.hid (HX4.out.below hb5 HX4.out.lt)
    have HY5 := Lib.hid (HY4.out.below hb5 HY4.out.lt)
    have HB5 := Lib.hid (HB4.out.trans (hb5.mono HB4.out.size))
    have HO5 := Lib.hid ((HO4.out.below hb5 (Nat.le_refl _)).more hb5.size)
    have c5 : w5.cell? ⟨w.heap.size, 0, none⟩ = some (.slice A k c) := HX5.out.cell 0
    have d5 : w5.cell? ⟨g2, 0, none⟩ = some (.slice A2 m c2) := HY5.out.cell 0
    have HA5 := Lib.hid ((HA.out.below HB5.out (Nat.le_refl _)).more HB5.out.size)
    clear hb5 HX4 HY4 HB4 HO4 HA4 c4 d4
    go_wp2_with fail
    refine (containsFnR A k c 31 #[.pointer (some ⟨g2, 0, none⟩)] (missL (namedL zs)) zs _ HK.out HA5.out (fun args wx => Try.call31 args wx) (fun x wx hb => missL_any x g2 A2 m c2 _ (namedL zs) wx HMX.out ((HY5.out.below hb HY5.out.lt).cell 0) (HO5.out.below hb (Nat.le_refl _)))).mono ?_
    rintro e w6 ⟨rfl, hb6⟩
    rw [named_noL]
    have HX6 := Lib.hid (HX5.out.below hb6 HX5.out.lt)
    have HB6 := Lib.hid (HB5.out.trans (hb6.mono HB5.out.size))
    have c6 : w6.cell? ⟨w.heap.size, 0, none⟩ = some (.slice A k c) := HX6.out.cell 0
    have HA6 := Lib.hid ((HA.out.below HB6.out (Nat.le_refl _)).more HB6.out.size)
    clear hb6 HX5 HY5 HB5 HO5 HA5 c5 d5
    by_cases hS : setE n slot v zs = 0
    · obtain ⟨_, hs, hv⟩ := setE_ok.1 hS
      have HS := Lib.hid hS
      have HV := Lib.hid hv
      obtain ⟨s, rfl⟩ : ∃ s : Nat, slot = s := ⟨slot.toNat, by omega⟩
      rw [HLK.out] at hs
      clear hS hv
      go_wp2_with fail
      refine (rootSet_ok A k c n s v zs _ HA6.out HS.out).mono ?_
      rintro e w7 ⟨A7, m7, c7, rfl, hm7, hO7, hb7⟩
      rw [List.length_set, HLK.out] at hm7
      subst hm7
      have HX7 := Lib.hid (HX6.out.below hb7 HX6.out.lt)
      have HB7 := Lib.hid (HB6.out.trans (hb7.mono HB6.out.size))
      have c7 : w7.cell? ⟨w.heap.size, 0, none⟩ = some (.slice A k c) := HX7.out.cell 0
      have HA7 := Lib.hid ((HA.out.below HB7.out (Nat.le_refl _)).more HB7.out.size)
      have HO7 := Lib.hid hO7.arrM.2.2
      clear hb7 hO7 HX6 HB6 c6 HA6
      have hsk : s < k := by omega
      obtain ⟨b, off, rfl, _, hcs⟩ := HA7.out.2.2 (by omega)
      have hc := hcs s hsk
      have hset := setE_back HS.out
      simp only [Int.toNat_natCast] at hset HO7
      have HSB := Lib.hid hset
      have HSK := Lib.hid hsk
      clear hcs hset
      go_wp2_with fail
      refine (rootSet_ok A7 k _ n s (nth zs s) (zs.set s v) _ HO7.out HSB.out).mono ?_
      rintro e w8 ⟨A8, m8, c8, rfl, hm8, hO8, hb8⟩
      rw [List.length_set, List.length_set, HLK.out] at hm8
      subst hm8
      rw [Int.toNat_natCast, set_back (by rw [HLK.out]; exact HSK.out)] at hO8
      have HX8 := Lib.hid (HX7.out.below hb8 HX7.out.lt)
      have HB8 := Lib.hid (HB7.out.trans (hb8.mono HB7.out.size))
      have c8' : w8.cell? ⟨w.heap.size, 0, none⟩ = some (.slice (some ⟨b, off, none⟩) k c) := HX8.out.cell 0
      have HA8 := Lib.hid ((HA.out.below HB8.out (Nat.le_refl _)).more HB8.out.size)
      have HO8 := Lib.hid hO8.arrM.2.2
      obtain ⟨b7, off7, rfl, _, hcs7⟩ := (HO7.out.below hb8 (Nat.le_refl _)).2.2 (by omega)
      have hc7 := hcs7 s hsk
      have e7 : nth (zs.set s v) s = v := by rw [nth_get _ _ (by rw [List.length_set, HLK.out]; exact HSK.out)]; simp
      rw [e7] at hc7
      clear hb8 hO8 HX7 HB7 c7 HA7 HO7 hcs7 e7 hc
      have cv : (v == v) = true := by simp
      go_wp2_with fail
      refine (equalInts A8 (some ⟨b, off, none⟩) k k c8 c _ zs zs _ HO8.out HA8.out HK.out HK.out).mono ?_
      rintro e w9 ⟨rfl, q, rfl⟩
      rw [show decide (zs = zs) = true by simp]
      have HB9 := Lib.hid (below_drewN HB8.out q)
      go_wp2
      go_ret
      exact ⟨rfl, HB9.out⟩
    · have c2 : (setE n slot v zs != 0) = true := by simpa using hS
      go_wp2_with fail
      refine (rootSet_bad A k c n slot v zs _ HK.out HA6.out hS).mono ?_
      rintro e w7 ⟨rfl, rfl⟩
      clear hS
      generalize setE n slot v zs = E at *
      go_wp2
      go_ret
      exact ⟨rfl, HB6.out⟩
  · have c2 : (rootE n zs != 0) = true := by simpa using hE
    go_wp2_with fail
    refine (rootNamed_bad A k c n zs _ HK.out HA1.out hE).mono ?_
    rintro e w2 ⟨rfl, rfl⟩
    have HB2 := Lib.hid (HB1.out.alloc HB1.out.size (.cells #[.slice none 0 0] 45))
    clear hE HX0 HB0
    generalize rootE n zs = E at *
    go_wp2
    go_ret
    exact ⟨rfl, HB2.out⟩
end Go.Proofs.Ytdieokpfkojoiaa
