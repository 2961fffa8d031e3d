/-
  Contracts of gap.find, gap.held and of what they call.
-/
import Derived.Test.YtggjgcnmkkoheaaGapPut
import Derived.Test.YtggjgcnmkkoheaaSpotFn
namespace Go.Proofs.Ytggjgcnmkkoheaa
open Go.RowKit

set_option maxHeartbeats 400000 in
theorem indexSpotC (A : Option Addr) (n c B fid : Nat) (caps : Array Value) (l : List Sp) (f : Nat → Bool) (w : World) (hn : n ≤ maxLen) (hB0 : B ≤ w.heap.size) (hx : ArrG spotC 5 w B A n l) (hcall : ∀ args wx, Sem.run Try.prog (callFunc fid args) wx = .ok (.enter fid args) wx)
    (hF : ∀ wx, Below w.heap.size w wx → ∀ j, j < n → Calls Try.prog fid (#[.agg #[.int .i64 (nthG l j).1, .int .i64 (nthG l j).2.1, .int .i64 (nthG l j).2.2.1, .int .i64 (nthG l j).2.2.2.1, .bool (nthG l j).2.2.2.2]] ++ caps) wx (fun e w' => e = .returned (.bool (f j)) ∧ Below wx.heap.size wx w')) :
    Calls Try.prog 78 #[.slice A n c, .func (.func fid) #[] caps] w (FoundS n f w) := by
  unfold maxLen at hn
  have HF := Lib.hid hF
  clear hF
  go_enter Try.func78, Try.ntmps78
  go_wp2
  go_loopw [8] (fun i wr => ∃ k : Nat, k ≤ n ∧ i = .int .i64 k ∧ Hid (∀ j, j < k → f j = false) ∧ Below w.heap.size w wr) (fun i _ => n - (intOf i).toNat)
  case atStart => exact ⟨0, Nat.zero_le _, rfl, (fun j hj => absurd hj (by omega)), Below.refl _ _⟩
  case round =>
    obtain ⟨k, hk, rfl, HE, hB⟩ := hrel
    by_cases hlt : k < n
    · obtain ⟨b, off, rfl, hbB, hc0, hc1, hc2, hc3, hc4⟩ := (hx.below hB hB0).spot hlt
      have hC := HF.out wr hB k hlt
      have HC := Lib.hid hC
      have HB := Lib.hid hB
      clear hC hB hx
      generalize (nthG l k).1 = X0 at *
      generalize (nthG l k).2.1 = X1 at *
      generalize (nthG l k).2.2.1 = X2 at *
      generalize (nthG l k).2.2.2.1 = X3 at *
      generalize (nthG l k).2.2.2.2 = X4 at *
      cases hf : f k
      · rw [hf] at HC
        have Hf := Lib.hid hf
        clear hf
        go_wp2_with fail
        refine HC.out.mono ?_
        rintro e w1 ⟨rfl, hb1⟩
        have HB1 := Lib.hid (HB.out.trans (hb1.mono HB.out.size))
        clear hb1
        go_wp2
        go_roundw
        case rel =>
          refine ⟨k + 1, by omega, by go_num, fun j hj => ?_, HB1.out⟩
          rcases Nat.lt_succ_iff_lt_or_eq.1 hj with h | h
          · exact HE.out j h
          · rw [h]; exact Hf.out
        case measure => simp [intOf]; omega
      · rw [hf] at HC
        have Hf := Lib.hid hf
        clear hf
        go_wp2_with fail
        refine HC.out.mono ?_
        rintro e w1 ⟨rfl, hb1⟩
        have HB1 := Lib.hid (HB.out.trans (hb1.mono HB.out.size))
        clear hb1
        go_wp2
        go_ret
        exact ⟨_, rfl, HB1.out, .inl ⟨k, rfl, hlt, Hf.out, HE.out⟩⟩
    · obtain rfl : k = n := by omega
      have HB := Lib.hid hB
      clear hB hx
      go_wp2
      go_ret
      exact ⟨_, rfl, HB.out, .inr ⟨rfl, HE.out⟩⟩


set_option maxHeartbeats 400000 in
theorem isFree_any (r b t : Int) (f : Bool) (w : World) : Calls Try.prog 51 #[.agg #[.int .i64 r, .int .i64 b, .int .i64 t, .bool f]] w fun e w' => e = .returned (.bool (id f)) ∧ Below w.heap.size w w' := by
  have HB := Lib.hid ((Below.refl _ w).alloc (Nat.le_refl _) (.cells #[.int .i64 r, .int .i64 b, .int .i64 t, .bool f] 24))
  go_enter Try.func51, Try.ntmps51
  go_wp2
  go_ret
  exact ⟨rfl, HB.out⟩

set_option maxHeartbeats 400000 in
theorem isLive_any (r b t : Int) (f : Bool) (w : World) : Calls Try.prog 53 #[.agg #[.int .i64 r, .int .i64 b, .int .i64 t, .bool f]] w fun e w' => e = .returned (.bool (not f)) ∧ Below w.heap.size w w' := by
  have HB := Lib.hid ((Below.refl _ w).alloc (Nat.le_refl _) (.cells #[.int .i64 r, .int .i64 b, .int .i64 t, .bool f] 24))
  go_enter Try.func53, Try.ntmps53
  go_wp2
  go_ret
  exact ⟨rfl, HB.out⟩

/-- Does the spot begin at 'a', with a header that is wanted? -/
def hit (a : Int) (wn : Bool → Bool) (s : Sp) : Bool := s.1 == a && wn s.2.2.2.2

set_option maxHeartbeats 400000 in
theorem findHit_any (x0 x1 x2 x3 a : Int) (x4 : Bool) (g1 g2 fid : Nat) (wn : Bool → Bool) (w : World) (h1 : w.cell? ⟨g1, 0, none⟩ = some (.int .i64 a)) (h2 : w.cell? ⟨g2, 0, none⟩ = some (.func (.func fid) #[] #[])) (hg1 : g1 < w.heap.size) (hg2 : g2 < w.heap.size)
    (hcall : ∀ args wx, Sem.run Try.prog (callFunc fid args) wx = .ok (.enter fid args) wx)
    (hF : ∀ r b t f wx, Calls Try.prog fid #[.agg #[.int .i64 r, .int .i64 b, .int .i64 t, .bool f]] wx (fun e w' => e = .returned (.bool (wn f)) ∧ Below wx.heap.size wx w')) :
    Calls Try.prog 79 #[.agg #[.int .i64 x0, .int .i64 x1, .int .i64 x2, .int .i64 x3, .bool x4], .pointer (some ⟨g1, 0, none⟩), .pointer (some ⟨g2, 0, none⟩)] w fun e w' => e = .returned (.bool (hit a wn (x0, x1, x2, x3, x4))) ∧ Below w.heap.size w w' := by
  have HC := Lib.hid (fun wx => hF x1 x2 x3 x4 wx)
  have bw := (Below.refl w.heap.size w).alloc (Nat.le_refl _) (.cells #[.int .i64 x0, .int .i64 x1, .int .i64 x2, .int .i64 x3, .bool x4] 47)
  have HBW := Lib.hid bw
  have k1 := (bw.cell (p := ⟨g1, 0, none⟩) hg1).trans h1
  have k2 := (bw.cell (p := ⟨g2, 0, none⟩) hg2).trans h2
  have bx := Box.new w 47 #[.int .i64 x0, .int .i64 x1, .int .i64 x2, .int .i64 x3, .bool x4]
  have d0 : (w.alloc (.cells #[.int .i64 x0, .int .i64 x1, .int .i64 x2, .int .i64 x3, .bool x4] 47)).cell? ⟨w.heap.size, 0, none⟩ = some (.int .i64 x0) := bx.cell 0
  have d1 : (w.alloc (.cells #[.int .i64 x0, .int .i64 x1, .int .i64 x2, .int .i64 x3, .bool x4] 47)).cell? ⟨w.heap.size, 1, none⟩ = some (.int .i64 x1) := bx.cell 1
  have d2 : (w.alloc (.cells #[.int .i64 x0, .int .i64 x1, .int .i64 x2, .int .i64 x3, .bool x4] 47)).cell? ⟨w.heap.size, 2, none⟩ = some (.int .i64 x2) := bx.cell 2
  have d3 : (w.alloc (.cells #[.int .i64 x0, .int .i64 x1, .int .i64 x2, .int .i64 x3, .bool x4] 47)).cell? ⟨w.heap.size, 3, none⟩ = some (.int .i64 x3) := bx.cell 3
  have d4 : (w.alloc (.cells #[.int .i64 x0, .int .i64 x1, .int .i64 x2, .int .i64 x3, .bool x4] 47)).cell? ⟨w.heap.size, 4, none⟩ = some (.bool x4) := bx.cell 4
  clear hF bw bx h1 h2
  unfold hit
  by_cases h : x0 = a
  · rw [show ((x0, x1, x2, x3, x4) : Sp).1 = x0 from rfl, show ((x0, x1, x2, x3, x4) : Sp).2.2.2.2 = x4 from rfl, show (x0 == a) = true by simp [h], Bool.true_and]
    generalize wn x4 = R at *
    subst h
    have he : (x0 == x0) = true := by simp
    go_enter Try.func79, Try.ntmps79
    go_wp2_with fail
    refine (HC.out _).mono ?_
    rintro e w1 ⟨rfl, hb1⟩
    have HB1 := Lib.hid (HBW.out.trans (hb1.mono HBW.out.size))
    clear hb1 d0 d1 d2 d3 d4 k1 k2
    go_wp2
    go_ret
    exact ⟨rfl, HB1.out⟩
  · have he : (x0 == a) = false := by simpa using h
    rw [show ((x0, x1, x2, x3, x4) : Sp).1 = x0 from rfl, he, Bool.false_and]
    clear h
    go_enter Try.func79, Try.ntmps79
    go_wp2
    go_ret
    exact ⟨rfl, HBW.out⟩

/-- What find answers. -/
def FindP (l : List Sp) (a : Int) (wn : Bool → Bool) (w : World) (e : Ending) (w' : World) : Prop := Below w.heap.size w w' ∧
  ((∃ k : Nat, e = .returned (.tuple #[.int .i64 k, .int .i64 0]) ∧ k < l.length ∧ hit a wn (nthG l k) = true) ∨
   (e = .returned (.tuple #[.int .i64 0, .int .i64 5]) ∧ ∀ j, j < l.length → hit a wn (nthG l j) = false))

set_option maxHeartbeats 400000 in
theorem find_any (A : Option Addr) (n c fid : Nat) (a : Int) (l : List Sp) (wn : Bool → Bool) (w : World) (hn : n ≤ maxLen) (hx : ArrG spotC 5 w w.heap.size A n l)
    (hcall : ∀ args wx, Sem.run Try.prog (callFunc fid args) wx = .ok (.enter fid args) wx)
    (hF : ∀ r b t f wx, Calls Try.prog fid #[.agg #[.int .i64 r, .int .i64 b, .int .i64 t, .bool f]] wx (fun e w' => e = .returned (.bool (wn f)) ∧ Below wx.heap.size wx w')) :
    Calls Try.prog 50 #[.slice A n c, .int .i64 a, .func (.func fid) #[] #[]] w (FindP l a wn w) := by
  have hl := hx.1
  have b1 := Box.new w 3 #[.int .i64 a]
  have b2 := Box.new (w.alloc (.cells #[.int .i64 a] 3)) 83 #[.func (.func fid) #[] #[]]
  have b1' := b1.alloc (.cells #[.func (.func fid) #[] #[]] 83)
  have hs1 : (w.alloc (.cells #[.int .i64 a] 3)).heap.size = w.heap.size + 1 := by simp
  have hs2 : ((w.alloc (.cells #[.int .i64 a] 3)).alloc (.cells #[.func (.func fid) #[] #[]] 83)).heap.size = w.heap.size + 1 + 1 := by simp
  rw [hs1] at b2
  have bw : Below w.heap.size w ((w.alloc (.cells #[.int .i64 a] 3)).alloc (.cells #[.func (.func fid) #[] #[]] 83)) := ((Below.refl w.heap.size w).alloc (Nat.le_refl _) _).alloc (by rw [hs1]; omega) _
  have HI : Hid (Calls Try.prog 78 #[.slice A n c, .func (.func 79) #[] #[.pointer (some ⟨w.heap.size, 0, none⟩), .pointer (some ⟨w.heap.size + 1, 0, none⟩)]] ((w.alloc (.cells #[.int .i64 a] 3)).alloc (.cells #[.func (.func fid) #[] #[]] 83)) (FoundS n (fun j => hit a wn (nthG l j)) ((w.alloc (.cells #[.int .i64 a] 3)).alloc (.cells #[.func (.func fid) #[] #[]] 83)))) := by
    refine indexSpotC A n c _ 79 #[.pointer (some ⟨w.heap.size, 0, none⟩), .pointer (some ⟨w.heap.size + 1, 0, none⟩)] l _ _ hn (by rw [hs2]; omega) (hx.below bw (Nat.le_refl _)) (fun args wx => Try.call79 args wx) ?_
    intro wx hb j _
    rw [hs2] at hb
    have c1 : wx.cell? ⟨w.heap.size, 0, none⟩ = some (.int .i64 a) := (b1'.below hb (by omega)).cell 0
    have c2 : wx.cell? ⟨w.heap.size + 1, 0, none⟩ = some (.func (.func fid) #[] #[]) := (b2.below hb (by omega)).cell 0
    have hsz := hb.size
    rw [hs2] at hsz
    exact findHit_any _ _ _ _ a _ w.heap.size (w.heap.size + 1) fid wn wx c1 c2 (by omega) (by omega) hcall hF
  have HBW := Lib.hid bw
  unfold FindP
  rw [hl]
  clear hF hx hcall b1 b2 b1' bw hs1 hs2 hl hn
  go_enter Try.func50, Try.ntmps50
  go_wp2_with fail
  refine HI.out.mono ?_
  rintro e w1 ⟨r, rfl, hb, hr⟩
  have HB := Lib.hid (HBW.out.trans (hb.mono HBW.out.size))
  clear hb HI HBW
  rcases hr with ⟨k, rfl, hk, hf, _⟩ | ⟨rfl, hall⟩
  · have HK := Lib.hid hf
    have hk0 : ((k : Int) < 0) = False := eq_false (by omega)
    clear hf
    go_wp2
    go_ret2
    exact ⟨HB.out, .inl ⟨k, rfl, hk, HK.out⟩⟩
  · have HK := Lib.hid hall
    clear hall
    go_wp2
    go_ret2
    exact ⟨HB.out, .inr ⟨rfl, HK.out⟩⟩

set_option maxHeartbeats 400000 in
theorem indexInts (A : Option Addr) (n c B : Nat) (x : Int) (xs : List Int) (w : World) (hn : n ≤ maxLen) (ha : Arr .i64 w B A n xs) :
    Calls Try.prog 90 #[.slice A n c, .int .i64 x] w fun e w' => (∃ r, e = .returned (.int .i64 r) ∧ PlaceP xs x r) ∧ w = w' := by
  unfold maxLen at hn
  have hl := ha.1
  have HA := Lib.hid ha
  clear ha
  go_enter Try.func90, Try.ntmps90
  go_wp2
  go_loopw [8] (fun i wr => ∃ k : Nat, k ≤ n ∧ i = .int .i64 k ∧ Hid (∀ j, j < k → nth xs j ≠ x) ∧ w = wr) (fun i _ => n - (intOf i).toNat)
  case atStart => exact ⟨0, Nat.zero_le _, rfl, (fun j hj => absurd hj (by omega)), rfl⟩
  case round =>
    obtain ⟨k, hk, rfl, HE, rfl⟩ := hrel
    by_cases hlt : k < n
    · obtain ⟨b, off, rfl, _, hcs⟩ := HA.out.2.2 (by omega)
      have hc := hcs k hlt
      clear hcs
      by_cases he : nth xs k = x
      · have HQ := Lib.hid he
        rw [he] at hc
        have hb : (x == x) = true := by simp
        clear he
        go_wp2
        go_ret
        exact ⟨⟨_, rfl, .inl ⟨k, rfl, by omega, HQ.out⟩⟩, rfl⟩
      · have HQ := Lib.hid he
        have hb : (x == nth xs k) = false := by simpa using fun e : x = nth xs k => he e.symm
        have HEn : Hid (∀ j, j < k + 1 → nth xs j ≠ x) := fun j hj => by
          rcases Nat.lt_succ_iff_lt_or_eq.1 hj with h | h
          · exact HE.out j h
          · rw [h]; exact HQ.out
        clear he HQ
        generalize nth xs k = X at hb hc
        go_wp2
        go_roundw
        case rel => exact ⟨k + 1, by omega, by go_num, HEn, by trivial⟩
        case measure => simp [intOf]; omega
    · obtain rfl : k = n := by omega
      go_wp2
      go_ret
      exact ⟨⟨_, rfl, .inr ⟨rfl, by rw [hl]; exact HE.out⟩⟩, rfl⟩

theorem placeP_mem {xs : List Int} {x r : Int} (h : PlaceP xs x r) : decide (0 ≤ r) = decide (x ∈ xs) := by
  rcases h with ⟨k, rfl, hk, he⟩ | ⟨rfl, h⟩
  · have : x ∈ xs := by rw [← he, nth_get _ _ hk]; exact List.getElem_mem _
    simp [this]
  · have : x ∉ xs := fun hm => by
      obtain ⟨j, hj, e⟩ := List.getElem_of_mem hm
      exact h j hj (by rw [nth_get _ _ hj]; exact e)
    simp [this]

set_option maxHeartbeats 400000 in
theorem containsInts (A : Option Addr) (n c B : Nat) (x : Int) (xs : List Int) (w : World) (hn : n ≤ maxLen) (ha : Arr .i64 w B A n xs) :
    Calls Try.prog 82 #[.slice A n c, .int .i64 x] w fun e w' => e = .returned (.bool (decide (x ∈ xs))) ∧ w = w' := by
  have HP := Lib.hid (indexInts A n c B x xs w hn ha)
  clear ha
  go_enter Try.func82, Try.ntmps82
  go_wp2_with fail
  refine HP.out.mono ?_
  rintro e w1 ⟨⟨r, rfl, hp⟩, rfl⟩
  have HQ := Lib.hid (placeP_mem hp)
  clear hp HP
  go_wp2
  go_ret
  exact ⟨by rw [← HQ.out]; rfl, rfl⟩

/-- Does an object other than number 'i' refer to it? -/
def heldB (m i : Nat) (os : Nat → Ob) : Bool := (List.range m).any fun k => k != i && decide ((i : Int) ∈ (os k).2.1)

set_option maxHeartbeats 1000000 in
set_option maxRecDepth 8000 in
theorem held_any (A : Option Addr) (m c i lo : Nat) (raws : List Raw) (os : Nat → Ob) (w : World) (hm : m ≤ 256) (hi : i ≤ 256) (hx : ArrG rawC 4 w w.heap.size A m raws) (hV : ∀ j, j < m → ObV w lo w.heap.size (nthG raws j) (os j)) (hL : ∀ j, j < m → (nthG raws j).rn ≤ maxLen) :
    Calls Try.prog 55 #[.slice A m c, .int .i64 i] w fun e w' => e = .returned (.bool (heldB m i os)) ∧ Below w.heap.size w w' := by
  have HV := Lib.hid hV
  have HL := Lib.hid hL
  clear hV hL
  go_enter Try.func55, Try.ntmps55
  go_wp2_with fail
  go_loopw [9] (fun v wr => ∃ k : Nat, k ≤ m ∧ v = .int .i64 k ∧ Hid (∀ j, j < k → (j != i && decide ((i : Int) ∈ (os j).2.1)) = false) ∧ Below w.heap.size w wr) (fun v _ => m - (intOf v).toNat)
  case atStart => exact ⟨0, Nat.zero_le _, rfl, (fun j hj => absurd hj (by omega)), Below.refl _ _⟩
  case round =>
    obtain ⟨k, hk, rfl, HE, hB⟩ := hrel
    by_cases hlt : k < m
    · obtain ⟨b, off, rfl, hbB, hcs⟩ := (hx.below hB (Nat.le_refl _)).at_ hlt
      have c0 : wr.cell? ⟨b, off + k * 4, none⟩ = some (.int .i64 (nthG raws k).t) := hcs 0 (by omega)
      have c1 : wr.cell? ⟨b, off + k * 4 + 1, none⟩ = some (.slice (nthG raws k).ra (nthG raws k).rn (nthG raws k).rc) := hcs 1 (by omega)
      have c2 : wr.cell? ⟨b, off + k * 4 + 2, none⟩ = some (.slice (nthG raws k).ba (nthG raws k).bn (nthG raws k).bc) := hcs 2 (by omega)
      have c3 : wr.cell? ⟨b, off + k * 4 + 3, none⟩ = some (.bool (nthG raws k).f) := hcs 3 (by omega)
      have HEn : Hid ((k != i && decide ((i : Int) ∈ (os k).2.1)) = false → ∀ j, j < k + 1 → (j != i && decide ((i : Int) ∈ (os j).2.1)) = false) := fun h j hj => by
        rcases Nat.lt_succ_iff_lt_or_eq.1 hj with h1 | h1
        · exact HE.out j h1
        · rw [h1]; exact h
      have hR := (HV.out k hlt).refs
      have HT : Hid ((k != i && decide ((i : Int) ∈ (os k).2.1)) = true → heldB m i os = true) := fun h => List.any_eq_true.2 ⟨k, List.mem_range.2 hlt, h⟩
      have hrn := HL.out k hlt
      have hR2 := hR.below hB (Nat.le_refl _)
      have HB := Lib.hid hB
      clear hcs hB hx hR
      generalize (nthG raws k).t = T at *
      generalize (nthG raws k).ra = RA at *
      generalize (nthG raws k).rn = RN at *
      generalize (nthG raws k).rc = RC at *
      generalize (nthG raws k).ba = BA at *
      generalize (nthG raws k).bn = BN at *
      generalize (nthG raws k).bc = BC at *
      generalize (nthG raws k).f = F at *
      have bx := Box.new wr 68 #[.int .i64 T, .slice RA RN RC, .slice BA BN BC, .bool F]
      have bw := (Below.refl wr.heap.size wr).alloc (Nat.le_refl _) (.cells #[.int .i64 T, .slice RA RN RC, .slice BA BN BC, .bool F] 68)
      have HBW := Lib.hid (HB.out.trans (bw.mono HB.out.size))
      have HC := Lib.hid (containsInts RA RN RC w.heap.size i (os k).2.1 _ hrn (hR2.below bw HB.out.size))
      have d1 : (wr.alloc (.cells #[.int .i64 T, .slice RA RN RC, .slice BA BN BC, .bool F] 68)).cell? ⟨wr.heap.size, 1, none⟩ = some (.slice RA RN RC) := bx.cell 1
      clear bx bw hR2 HL HV
      by_cases hki : k = i
      · subst hki
        have HN := Lib.hid (HEn.out (by simp))
        have hne : ((k : Int) != (k : Int)) = false := by simp
        clear HEn HT HC
        go_wp2
        go_roundw
        case rel => exact ⟨k + 1, by omega, by go_num, HN, HBW.out⟩
        case measure => simp [intOf]; omega
      · have hne : ((k : Int) != (i : Int)) = true := by simp; omega
        have hne2 : (k != i) = true := by simpa using hki
        rw [hne2, Bool.true_and] at HEn HT
        generalize decide ((i : Int) ∈ (os k).2.1) = R at *
        clear hne2 hki
        cases R
        · have HN := Lib.hid (HEn.out rfl)
          clear HEn HT
          go_wp2_with fail
          refine HC.out.mono ?_
          rintro e w1 ⟨rfl, rfl⟩
          clear HC
          go_wp2
          go_roundw
          case rel => exact ⟨k + 1, by omega, by go_num, HN, HBW.out⟩
          case measure => simp [intOf]; omega
        · have HN := Lib.hid (HT.out rfl)
          clear HEn HT
          go_wp2_with fail
          refine HC.out.mono ?_
          rintro e w1 ⟨rfl, rfl⟩
          clear HC
          go_wp2
          go_ret
          exact ⟨by rw [HN.out]; rfl, HBW.out⟩
    · obtain rfl : k = m := by omega
      have HB := Lib.hid hB
      have HN : Hid (heldB k i os = false) := by
        show _ = _
        unfold heldB
        rw [List.any_eq_false]
        intro j hj
        rw [HE.out j (List.mem_range.1 hj)]; decide
      clear hB hx
      go_wp2
      go_ret
      exact ⟨by rw [HN.out]; rfl, HB.out⟩
end Go.Proofs.Ytggjgcnmkkoheaa
