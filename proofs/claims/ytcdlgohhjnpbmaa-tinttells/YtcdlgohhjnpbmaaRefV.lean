/-
  Contracts of the reference's Takes, Covers and MarkRun (the marker in boxed variables: 'RMk').
-/
import Derived.Test.YtcdlgohhjnpbmaaRefT
import Derived.Test.YtcdlgohhjnpbmaaRefPack
namespace Go.Proofs.Ytcdlgohhjnpbmaa
open Go.RowKit

/-- How many words some objects take. -/
def sumL (zs l : List Int) : Nat := ((l.map Int.toNat).map (longN zs)).sum
theorem sumL_snoc {zs l : List Int} {x : Int} : sumL zs (l ++ [x]) = sumL zs l + longN zs x.toNat := by unfold sumL; simp [List.sum_append]
theorem sumL_le {zs l : List Int} (h : ∀ x ∈ l, longN zs x.toNat ≤ 256) : sumL zs l ≤ l.length * 256 := by
  induction l with
  | nil => exact Nat.le_refl _
  | cons a l ih =>
    have h1 := h a (by simp)
    have h2 := ih fun x hx => h x (by simp [hx])
    have e : sumL zs (a :: l) = longN zs a.toNat + sumL zs l := by unfold sumL; simp
    rw [e, List.length_cons]
    omega
/-- The header that the reference finds. -/
theorem headOf_any (A : Option Addr) (n c t : Nat) (zs : List Int) (w : World) (ha : Arr .u64 w w.heap.size A n zs) (h : arErr zs = 0) (ht : (t : Int) ∈ livesI zs) :
    Calls Try.prog 67 #[.slice A n c, .int .i64 t] w fun e w' => e = .returned (.tuple #[.agg #[.int .i64 (vR (nth zs t)), .int .i64 (vB (nth zs t)), .int .i64 (vT (nth zs t)), .bool false], .bool true]) ∧ Below w.heap.size w w' := by
  obtain ⟨j, hj, e0, hf⟩ := mem_lives.1 ht
  refine (headAt_any A n c (t : Int) zs w ha (arErr_zero h).1).mono ?_
  rintro e w' ⟨b, h⟩
  rcases h with ⟨i, hi, e1, _, he⟩ | ⟨hno, _⟩
  · have : st zs i = t := by omega
    rw [this] at he
    exact ⟨he, b⟩
  · have := hno j hj e0.symm
    rw [hf] at this
    cases this

set_option maxRecDepth 8000 in
set_option maxHeartbeats 1000000 in
theorem takes_any (A F : Option Addr) (n c nf cf : Nat) (zs l : List Int) (w : World) (ha : Arr .u64 w w.heap.size A n zs) (h : arErr zs = 0) (hnf : nf ≤ 256) (hl : Arr .i64 w w.heap.size F nf l) (hs : ∀ x ∈ l, x ∈ livesI zs) :
    Calls Try.prog 39 #[.slice A n c, .slice F nf cf] w fun e w' => e = .returned (.int .i64 (sumL zs l : Nat)) ∧ Below w.heap.size w w' := by
  have HA := Lib.hid ha
  have HF := Lib.hid hl
  have H0 := Lib.hid h
  have HS := Lib.hid hs
  have hll := hl.1
  have h256 := arena_len h
  clear ha hl h hs
  go_enter Try.func39, Try.ntmps39
  go_wp2_with fail
  go_loopw [5, 12] (fun v i wr => ∃ k : Nat, k ≤ nf ∧ i = .int .i64 k ∧ v = .int .i64 (sumL zs (l.take k) : Nat) ∧ Hid (Below w.heap.size w wr)) (fun _ i _ => nf - (intOf i).toNat)
  case atStart => exact ⟨0, Nat.zero_le _, rfl, rfl, Below.refl _ _⟩
  case round =>
    obtain ⟨k, hk, rfl, rfl, HB⟩ := hrel
    by_cases hlt : k < nf
    · have hkl : k < l.length := by omega
      have hmem := HS.out _ (nth_mem hkl)
      obtain ⟨t, ht, q1, q2, q3, q4, q5, q6, q7, q8, q9⟩ := live_facts HA.out.2.1 hmem
      obtain ⟨b, off, rfl, _, hcs⟩ := (HF.out.later HB.out).2.2 (by omega)
      have hc := hcs k hlt
      have hsum : sumL zs (l.take (k + 1)) = sumL zs (l.take k) + longN zs t := by rw [take_nth hkl, sumL_snoc, ht, Int.toNat_natCast]
      have hle : sumL zs (l.take k) ≤ 65536 := by
        have h1 := sumL_le (zs := zs) (l := l.take k) fun x hx => by
          obtain ⟨t', e, _, _, _, _, _, _, h7, _⟩ := live_facts HA.out.2.1 (HS.out x (List.mem_of_mem_take hx))
          rw [e, Int.toNat_natCast]; omega
        rw [List.length_take] at h1
        omega
      rw [ht] at hc hmem
      have HHD := Lib.hid (headOf_any A n c t zs wr (HA.out.later HB.out) H0.out hmem)
      have HHL := Lib.hid (fun w => headLong_any (vR (nth zs t)) (vB (nth zs t)) (vT (nth zs t)) false w q2 (by omega) q3 (by omega))
      have HSU := Lib.hid hsum
      obtain ⟨N, hN⟩ : ∃ N, longN zs t = N := ⟨_, rfl⟩
      rw [hN] at q6 q7 HSU
      rw [← q6] at HHL
      clear hcs ht hmem hkl q8 q9 q5 hN hsum
      generalize vR (nth zs t) = R at *
      generalize vB (nth zs t) = Bd at *
      generalize vT (nth zs t) = T at *
      generalize sumL zs (l.take k) = V at *
      clear q6
      go_wp2_with fail
      refine HHD.out.mono ?_
      rintro e w1 ⟨rfl, b1⟩
      have bx := Box.new w1 96 #[.int .i64 R, .int .i64 Bd, .int .i64 T, .bool false]
      have HB1 := Lib.hid (bthen (bthen HB.out b1) ((Below.refl _ w1).alloc (Nat.le_refl _) (.cells #[.int .i64 R, .int .i64 Bd, .int .i64 T, .bool false] 96)))
      clear b1 HHD bx hc
      go_wp2_with fail
      refine (HHL.out _).mono ?_
      rintro e w2 ⟨rfl, b2⟩
      have HB2 := Lib.hid (bthen HB1.out b2)
      clear b2 HHL HB1
      go_wp2
      go_roundw
      case rel => exact ⟨k + 1, by omega, by go_num, by rw [HSU.out]; go_num, HB2.out⟩
      case measure => simp [intOf]; omega
    · obtain rfl : k = nf := by omega
      have HL : Hid (l.take k = l) := by show _ = _; rw [List.take_of_length_le (by omega)]
      rw [HL.out]
      obtain ⟨V, hV⟩ : ∃ V, sumL zs l = V := ⟨_, rfl⟩
      rw [hV]
      have HV := Lib.hid hV
      clear hV HL
      go_wp2
      go_ret
      exact ⟨by rw [HV.out]; rfl, HB.out⟩

set_option maxRecDepth 8000 in
set_option maxHeartbeats 1000000 in
theorem covers_any (A F : Option Addr) (n c nf cf q : Nat) (zs l : List Int) (w : World) (ha : Arr .u64 w w.heap.size A n zs) (h : arErr zs = 0) (hnf : nf ≤ 256) (hl : Arr .i64 w w.heap.size F nf l) (hs : ∀ x ∈ l, x ∈ livesI zs) :
    Calls Try.prog 72 #[.slice A n c, .slice F nf cf, .int .i64 q] w fun e w' => e = .returned (.bool (coversN zs (l.map Int.toNat) q)) ∧ Below w.heap.size w w' := by
  have HA := Lib.hid ha
  have HF := Lib.hid hl
  have H0 := Lib.hid h
  have HS := Lib.hid hs
  have hll := hl.1
  have h256 := arena_len h
  clear ha hl h hs
  go_enter Try.func72, Try.ntmps72
  go_wp2_with fail
  go_loopw [13] (fun i wr => ∃ k : Nat, k ≤ nf ∧ i = .int .i64 k ∧ Hid (∀ j, j < k → ¬ ((nth l j).toNat ≤ q ∧ q < (nth l j).toNat + longN zs (nth l j).toNat)) ∧ Hid (Below w.heap.size w wr)) (fun i _ => nf - (intOf i).toNat)
  case atStart => exact ⟨0, Nat.zero_le _, rfl, (fun j hj => absurd hj (by omega)), Below.refl _ _⟩
  case round =>
    obtain ⟨k, hk, rfl, HP, HB⟩ := hrel
    by_cases hlt : k < nf
    · have hkl : k < l.length := by omega
      have hin := nth_mem hkl
      have hmem := HS.out _ hin
      obtain ⟨t, ht, q1, q2, q3, q4, q5, q6, q7, q8, q9⟩ := live_facts HA.out.2.1 hmem
      obtain ⟨b, off, rfl, _, hcs⟩ := (HF.out.later HB.out).2.2 (by omega)
      have hc := hcs k hlt
      have HY : Hid ((t ≤ q ∧ q < t + longN zs t) → coversN zs (l.map Int.toNat) q = true) := fun h => coversN_iff.2 ⟨t, List.mem_map.2 ⟨_, hin, by rw [ht]; simp⟩, h⟩
      have HNO : Hid (¬ (t ≤ q ∧ q < t + longN zs t) → ∀ j, j < k + 1 → ¬ ((nth l j).toNat ≤ q ∧ q < (nth l j).toNat + longN zs (nth l j).toNat)) := fun h j hj => by
        rcases Nat.lt_succ_iff_lt_or_eq.1 hj with h1 | h1
        · exact HP.out j h1
        · rw [h1, ht, Int.toNat_natCast]; exact h
      rw [ht] at hc hmem
      have HHD := Lib.hid (headOf_any A n c t zs wr (HA.out.later HB.out) H0.out hmem)
      have HHL := Lib.hid (fun w => headLong_any (vR (nth zs t)) (vB (nth zs t)) (vT (nth zs t)) false w q2 (by omega) q3 (by omega))
      obtain ⟨N, hN⟩ : ∃ N, longN zs t = N := ⟨_, rfl⟩
      rw [hN] at q6 q7 HY HNO
      rw [← q6] at HHL
      clear hcs ht hmem hkl q8 q9 q5 hN hin
      generalize vR (nth zs t) = R at *
      generalize vB (nth zs t) = Bd at *
      generalize vT (nth zs t) = T at *
      clear q6
      go_wp2_with fail
      refine HHD.out.mono ?_
      rintro e w1 ⟨rfl, b1⟩
      have HB1 := Lib.hid (bthen (bthen HB.out b1) ((Below.refl _ w1).alloc (Nat.le_refl _) (.cells #[.int .i64 R, .int .i64 Bd, .int .i64 T, .bool false] 96)))
      clear b1 HHD hc
      by_cases c1 : t ≤ q
      · have d1 : ((t : Int) ≤ (q : Int)) = True := eq_true (by omega)
        by_cases c2 : q < t + N
        · have d2 : ((q : Int) < (t : Int) + (N : Int)) = True := eq_true (by omega)
          have HYY := Lib.hid (HY.out ⟨c1, c2⟩)
          clear HY HNO c1 c2
          go_wp2_with fail
          refine (HHL.out _).mono ?_
          rintro e w2 ⟨rfl, b2⟩
          have HB2 := Lib.hid (bthen HB1.out b2)
          clear b2 HHL HB1
          go_wp2
          go_ret
          exact ⟨by rw [HYY.out]; rfl, HB2.out⟩
        · have d2 : ((q : Int) < (t : Int) + (N : Int)) = False := eq_false (by omega)
          have HPN := Lib.hid (HNO.out fun h => c2 h.2)
          clear HY HNO c1 c2
          go_wp2_with fail
          refine (HHL.out _).mono ?_
          rintro e w2 ⟨rfl, b2⟩
          have HB2 := Lib.hid (bthen HB1.out b2)
          clear b2 HHL HB1
          go_wp2
          go_roundw
          case rel => exact ⟨k + 1, by omega, by go_num, HPN, HB2.out⟩
          case measure => simp [intOf]; omega
      · have d1 : ((t : Int) ≤ (q : Int)) = False := eq_false (by omega)
        have HPN := Lib.hid (HNO.out fun h => c1 h.1)
        clear HY HNO c1 HHL
        go_wp2
        go_roundw
        case rel => exact ⟨k + 1, by omega, by go_num, HPN, HB1.out⟩
        case measure => simp [intOf]; omega
    · obtain rfl : k = nf := by omega
      have HE : Hid (coversN zs (l.map Int.toNat) q = false) := by
        show _ = _
        rw [← Bool.not_eq_true, coversN_iff]
        rintro ⟨x, hx, h1⟩
        obtain ⟨y, hy, rfl⟩ := List.mem_map.1 hx
        obtain ⟨j, hj, e⟩ := List.getElem_of_mem hy
        have := HP.out j (by omega)
        rw [nth_get _ _ hj, e] at this
        exact this h1
      clear HP
      go_wp2
      go_ret
      exact ⟨by rw [HE.out]; rfl, HB.out⟩

/-- The closure that marks. -/
def markF (g : Nat) : Value := .func (.func 69) #[] #[.pointer (some ⟨g + 3, 0, none⟩), .pointer (some ⟨g + 4, 0, none⟩), .pointer (some ⟨g + 1, 0, none⟩), .pointer (some ⟨g + 5, 0, none⟩), .pointer (some ⟨g + 6, 0, none⟩)]
/-- The boxed variables, from block 'g' on: the arena, the room, the result, what is marked, the stack, the flag, how deep, the closure; what they hold. -/
structure RMI (A : Option Addr) (n c room g : Nat) (s : MS) (O : Option Addr) (on oc : Nat) (S : Option Addr) (sn sc : Nat) (w : World) : Prop where
  a : Box w g 22 #[.slice A n c]
  room : Box w (g + 1) 3 #[.int .i64 room]
  res : Box w (g + 2) 59 #[.slice none 0 0, .int .i64 0, .int .i64 0]
  bo : Box w (g + 3) 54 #[.slice O on oc]
  bs : Box w (g + 4) 54 #[.slice S sn sc]
  over : Box w (g + 5) 4 #[.bool s.over]
  deep : Box w (g + 6) 3 #[.int .i64 s.deep]
  fn : Box w (g + 7) 100 #[markF g]
  ownO : Own .i64 3 w (g + 8) (.slice O on oc) s.on
  ownS : Own .i64 3 w (g + 8) (.slice S sn sc) s.stk
  apart : ∀ r, (Value.slice O on oc).ownBlock = some r → (Value.slice S sn sc).ownBlock ≠ some r
/-- .. and the blocks of 'K' are none of theirs. -/
def RMk (A : Option Addr) (n c room g : Nat) (s : MS) (K : Nat → Prop) (w : World) : Prop :=
  ∃ O on oc S sn sc, RMI A n c room g s O on oc S sn sc w ∧ ∀ r, K r → g + 8 ≤ r ∧ r < w.heap.size ∧ (Value.slice O on oc).ownBlock ≠ some r ∧ (Value.slice S sn sc).ownBlock ≠ some r
/-- The blocks of 'K', and those below 'g', are as they were. -/
structure Kept (g : Nat) (K : Nat → Prop) (w w' : World) : Prop where
  below : Below g w w'
  keep : ∀ r, K r → w'.heap[r]? = w.heap[r]?
theorem Kept.trans {g : Nat} {K : Nat → Prop} {w w' w'' : World} (h : Kept g K w w') (h' : Kept g K w' w'') : Kept g K w w'' := ⟨h.below.trans h'.below, fun r hr => (h'.keep r hr).trans (h.keep r hr)⟩
theorem Kept.refl (g : Nat) (K : Nat → Prop) (w : World) : Kept g K w w := ⟨Below.refl _ _, fun _ _ => rfl⟩
section
variable {A : Option Addr} {n c room g : Nat} {s : MS} {K : Nat → Prop} {w w' : World} {O S : Option Addr} {on oc sn sc : Nat}
theorem RMI.lt (h : RMI A n c room g s O on oc S sn sc w) : g + 8 ≤ w.heap.size := h.fn.lt
theorem RMI.next (h : RMI A n c room g s O on oc S sn sc w) (hb : Below w.heap.size w w') : RMI A n c room g s O on oc S sn sc w' := by
  have := h.lt
  exact ⟨h.a.below hb (by omega), h.room.below hb (by omega), h.res.below hb (by omega), h.bo.below hb (by omega), h.bs.below hb (by omega), h.over.below hb (by omega), h.deep.below hb (by omega), h.fn.below hb (by omega), h.ownO.below hb, h.ownS.below hb, h.apart⟩
theorem RMk.next (h : RMk A n c room g s K w) (hb : Below w.heap.size w w') : RMk A n c room g s K w' := by
  obtain ⟨O, on, oc, S, sn, sc, h, hK⟩ := h
  exact ⟨O, on, oc, S, sn, sc, h.next hb, fun r hr => ⟨(hK r hr).1, Nat.lt_of_lt_of_le (hK r hr).2.1 hb.size, (hK r hr).2.2⟩⟩
theorem RMk.lt (h : RMk A n c room g s K w) : g + 8 ≤ w.heap.size := by
  obtain ⟨O, on, oc, S, sn, sc, h, hK⟩ := h
  exact h.lt
theorem RMk.kept (h : RMk A n c room g s K w) (hb : Below w.heap.size w w') : Kept g K w w' := by
  have hl := h.lt
  obtain ⟨O, on, oc, S, sn, sc, h, hK⟩ := h
  exact ⟨hb.mono (by omega), fun r hr => hb.block r (hK r hr).2.1⟩
/-- A new slice is none of theirs. -/
theorem RMk.add (h : RMk A n c room g s K w) (hb : Below w.heap.size w w') {D : Option Addr} {m : Nat} {l : List Int} (ha : Arr .i64 w' w'.heap.size D m l) (hi : High w.heap.size D m) : RMk A n c room g s (fun r => K r ∨ (0 < m ∧ ∃ off, D = some ⟨r, off, none⟩)) w' := by
  have hl := h.lt
  obtain ⟨O, on, oc, S, sn, sc, h, hK⟩ := h
  refine ⟨O, on, oc, S, sn, sc, h.next hb, fun r hr => ?_⟩
  rcases hr with hr | ⟨hm, off, rfl⟩
  · exact ⟨(hK r hr).1, Nat.lt_of_lt_of_le (hK r hr).2.1 hb.size, (hK r hr).2.2⟩
  · have h1 := hi r off hm rfl
    obtain ⟨b, off', e, hlt, _⟩ := ha.2.2 hm
    injection e with e
    injection e with e
    exact ⟨by omega, by omega, fun e => by have := h.ownO.rowLt r e; omega, fun e => by have := h.ownS.rowLt r e; omega⟩
theorem Arr.kept {D : Option Addr} {m B : Nat} {l : List Int} (ha : Arr .i64 w B D m l) (hk : Kept g (fun r => K r ∨ (0 < m ∧ ∃ off, D = some ⟨r, off, none⟩)) w w') : Arr .i64 w' B D m l := by
  refine ⟨ha.1, ha.2.1, fun hm => ?_⟩
  obtain ⟨b, off, rfl, hb, hc⟩ := ha.2.2 hm
  refine ⟨b, off, rfl, hb, fun j hj => ?_⟩
  have := hk.keep b (.inr ⟨hm, off, rfl⟩)
  rw [← hc j hj]
  simp [World.cell?, this]
theorem RMk.less {K' : Nat → Prop} (h : RMk A n c room g s K w) (hk : ∀ r, K' r → K r) : RMk A n c room g s K' w := by
  obtain ⟨O, on, oc, S, sn, sc, h, hK⟩ := h
  exact ⟨O, on, oc, S, sn, sc, h, fun r hr => hK r (hk r hr)⟩
theorem Kept.less {K' : Nat → Prop} (h : Kept g K w w') (hk : ∀ r, K' r → K r) : Kept g K' w w' := ⟨h.below, fun r hr => h.keep r (hk r hr)⟩
/-- More is marked. -/
theorem RMI.mark (h : RMI A n c room g s O on oc S sn sc w) {O' : Option Addr} {on' oc' : Nat} {l : List Int} (hg : Grew w (.slice O on oc) w' (.slice O' on' oc')) (ho : Own .i64 3 w' (g + 8) (.slice O' on' oc') l) :
    RMI A n c room g { s with on := l } O' on' oc' S sn sc (w'.setCell ⟨g + 3, 0, none⟩ (.slice O' on' oc')) := by
  have hl := h.lt
  have row := h.ownO.row
  have nb : ∀ i, i < g + 8 → (Value.slice O on oc).ownBlock ≠ some i := fun i hi e => by have := row i e; omega
  have bx : ∀ i, i < g + 8 → w'.heap[i]? = w.heap[i]? := fun i hi => hg.block i (by omega) (nb i hi)
  have bb : ∀ {i : Nat} {t : TypeId} {cs : Array Value}, i < g + 8 → Box w i t cs → Box w' i t cs := fun hi hx => (bx _ hi).trans hx
  have hS' : Own .i64 3 w' (g + 8) (.slice S sn sc) s.stk := by
    obtain ⟨⟨q1, q2⟩, q3⟩ := h.ownS
    refine ⟨⟨q1, q2.imp id ?_⟩, q3⟩
    rintro ⟨r, cap, cur, hv, hb, hh, rest⟩
    refine ⟨r, cap, cur, hv, hb, ?_, rest⟩
    have hr : (Value.slice S sn sc).ownBlock = some r := by rw [hv]; rfl
    rw [hg.block r (h.ownS.rowLt r hr) fun e => h.apart r e hr]; exact hh
  have off : ∀ {v : Value} {xs : List Int}, Own .i64 3 w' (g + 8) v xs → v.ownBlock ≠ some (g + 3) := fun hv e => by have := hv.row _ e; omega
  refine ⟨(bb (by omega) h.a).setOther (by omega) _ _, (bb (by omega) h.room).setOther (by omega) _ _, (bb (by omega) h.res).setOther (by omega) _ _, ?_, (bb (by omega) h.bs).setOther (by omega) _ _,
    (bb (by omega) h.over).setOther (by omega) _ _, (bb (by omega) h.deep).setOther (by omega) _ _, (bb (by omega) h.fn).setOther (by omega) _ _, ho.setOff (off ho) _ _, hS'.setOff (off hS') _ _, fun r e e2 => ?_⟩
  · have := (bb (by omega) h.bo).set 0 (.slice O' on' oc')
    exact this
  · rcases hg.loc with h1 | h1
    · rw [h1] at e; exact h.apart r e e2
    · have := h1 r e
      have := h.ownS.rowLt r e2
      omega
/-- The stack is another one. -/
theorem RMI.stack (h : RMI A n c room g s O on oc S sn sc w) {S' : Option Addr} {sn' sc' : Nat} {l : List Int} (hg : Grew w (.slice S sn sc) w' (.slice S' sn' sc')) (ho : Own .i64 3 w' (g + 8) (.slice S' sn' sc') l) :
    RMI A n c room g { s with stk := l } O on oc S' sn' sc' (w'.setCell ⟨g + 4, 0, none⟩ (.slice S' sn' sc')) := by
  have hl := h.lt
  have row := h.ownS.row
  have nb : ∀ i, i < g + 8 → (Value.slice S sn sc).ownBlock ≠ some i := fun i hi e => by have := row i e; omega
  have bx : ∀ i, i < g + 8 → w'.heap[i]? = w.heap[i]? := fun i hi => hg.block i (by omega) (nb i hi)
  have bb : ∀ {i : Nat} {t : TypeId} {cs : Array Value}, i < g + 8 → Box w i t cs → Box w' i t cs := fun hi hx => (bx _ hi).trans hx
  have hO' : Own .i64 3 w' (g + 8) (.slice O on oc) s.on := by
    obtain ⟨⟨q1, q2⟩, q3⟩ := h.ownO
    refine ⟨⟨q1, q2.imp id ?_⟩, q3⟩
    rintro ⟨r, cap, cur, hv, hb, hh, rest⟩
    refine ⟨r, cap, cur, hv, hb, ?_, rest⟩
    have hr : (Value.slice O on oc).ownBlock = some r := by rw [hv]; rfl
    rw [hg.block r (h.ownO.rowLt r hr) fun e => h.apart r hr e]; exact hh
  have off : ∀ {v : Value} {xs : List Int}, Own .i64 3 w' (g + 8) v xs → v.ownBlock ≠ some (g + 4) := fun hv e => by have := hv.row _ e; omega
  refine ⟨(bb (by omega) h.a).setOther (by omega) _ _, (bb (by omega) h.room).setOther (by omega) _ _, (bb (by omega) h.res).setOther (by omega) _ _, (bb (by omega) h.bo).setOther (by omega) _ _, ?_,
    (bb (by omega) h.over).setOther (by omega) _ _, (bb (by omega) h.deep).setOther (by omega) _ _, (bb (by omega) h.fn).setOther (by omega) _ _, hO'.setOff (off hO') _ _, ho.setOff (off ho) _ _, fun r e e2 => ?_⟩
  · have := (bb (by omega) h.bs).set 0 (.slice S' sn' sc')
    exact this
  · rcases hg.loc with h1 | h1
    · rw [h1] at e2; exact h.apart r e e2
    · have := h1 r e2
      have := h.ownO.rowLt r e
      omega
/-- The flag is set, or not. -/
theorem RMI.flag (h : RMI A n c room g s O on oc S sn sc w) (b : Bool) : RMI A n c room g { s with over := b } O on oc S sn sc (w.setCell ⟨g + 5, 0, none⟩ (.bool b)) := by
  have off : ∀ {v : Value} {xs : List Int}, Own .i64 3 w (g + 8) v xs → v.ownBlock ≠ some (g + 5) := fun hv e => by have := hv.row _ e; omega
  exact ⟨h.a.setOther (by omega) _ _, h.room.setOther (by omega) _ _, h.res.setOther (by omega) _ _, h.bo.setOther (by omega) _ _, h.bs.setOther (by omega) _ _, h.over.set 0 (.bool b), h.deep.setOther (by omega) _ _, h.fn.setOther (by omega) _ _, h.ownO.setOff (off h.ownO) _ _, h.ownS.setOff (off h.ownS) _ _, h.apart⟩
theorem RMI.deeper (h : RMI A n c room g s O on oc S sn sc w) (d : Nat) : RMI A n c room g { s with deep := d } O on oc S sn sc (w.setCell ⟨g + 6, 0, none⟩ (.int .i64 d)) := by
  have off : ∀ {v : Value} {xs : List Int}, Own .i64 3 w (g + 8) v xs → v.ownBlock ≠ some (g + 6) := fun hv e => by have := hv.row _ e; omega
  exact ⟨h.a.setOther (by omega) _ _, h.room.setOther (by omega) _ _, h.res.setOther (by omega) _ _, h.bo.setOther (by omega) _ _, h.bs.setOther (by omega) _ _, h.over.setOther (by omega) _ _, h.deep.set 0 (.int .i64 d), h.fn.setOther (by omega) _ _, h.ownO.setOff (off h.ownO) _ _, h.ownS.setOff (off h.ownS) _ _, h.apart⟩
theorem RMI.lens (h : RMI A n c room g s O on oc S sn sc w) : on = s.on.length ∧ sn = s.stk.length := by
  obtain ⟨_, _, e, _, _⟩ := h.ownO.arr
  obtain ⟨_, _, e', _, _⟩ := h.ownS.arr
  injection e with _ e
  injection e' with _ e'
  exact ⟨e, e'⟩
/-- What a step leaves of 'K', where the rows are the old ones or new ones. -/
theorem RMk.of (hK : ∀ r, K r → g + 8 ≤ r ∧ r < w.heap.size ∧ (Value.slice O on oc).ownBlock ≠ some r ∧ (Value.slice S sn sc).ownBlock ≠ some r) {s' : MS} {O' S' : Option Addr} {on' oc' sn' sc' : Nat} (h' : RMI A n c room g s' O' on' oc' S' sn' sc' w')
    (lo : (Value.slice O' on' oc').ownBlock = (Value.slice O on oc).ownBlock ∨ ∀ b, (Value.slice O' on' oc').ownBlock = some b → w.heap.size ≤ b) (ls : (Value.slice S' sn' sc').ownBlock = (Value.slice S sn sc).ownBlock ∨ ∀ b, (Value.slice S' sn' sc').ownBlock = some b → w.heap.size ≤ b) (hz : w.heap.size ≤ w'.heap.size) :
    RMk A n c room g s' K w' := by
  refine ⟨O', on', oc', S', sn', sc', h', fun r hr => ?_⟩
  obtain ⟨k1, k2, k3, k4⟩ := hK r hr
  refine ⟨k1, by omega, fun e => ?_, fun e => ?_⟩
  · rcases lo with h1 | h1
    · rw [h1] at e; exact k3 e
    · have := h1 r e; omega
  · rcases ls with h1 | h1
    · rw [h1] at e; exact k4 e
    · have := h1 r e; omega
theorem Kept.set {w' : World} (h : Kept g K w w') {b : Nat} (hb : g ≤ b) (hk : ∀ r, K r → r ≠ b) (j : Nat) (d : Value) : Kept g K w (w'.setCell ⟨b, j, none⟩ d) :=
  ⟨below_set h.below hb j d, fun r hr => (heap_setOther w' (hk r hr) j d).trans (h.keep r hr)⟩
theorem Kept.grew {v v' : Value} (hg : Grew w v w' v') (hb : g ≤ w.heap.size) (hv : ∀ b, v.ownBlock = some b → g ≤ b) (hk : ∀ r, K r → r < w.heap.size ∧ v.ownBlock ≠ some r) : Kept g K w w' :=
  ⟨hg.below hb hv, fun r hr => hg.block r (hk r hr).1 (hk r hr).2⟩
end

set_option maxRecDepth 8000 in
set_option maxHeartbeats 2000000 in
theorem mark1_any {zs : List Int} {A : Option Addr} {n c room g : Nat} {s : MS} {K : Nat → Prop} (w : World) (hM : RMk A n c room g s K w) (hk : MG (livesI zs) room s) (hl : (livesI zs).length ≤ 256) (hz : zs.length ≤ 256) {x : Int} (hx : x < 0 ∨ x ∈ livesI zs) :
    Calls Try.prog 69 #[.int .i64 x, .pointer (some ⟨g + 3, 0, none⟩), .pointer (some ⟨g + 4, 0, none⟩), .pointer (some ⟨g + 1, 0, none⟩), .pointer (some ⟨g + 5, 0, none⟩), .pointer (some ⟨g + 6, 0, none⟩)] w
      fun e w' => e = .returned (.tuple #[]) ∧ RMk A n c room g (mk1 room s x) K w' ∧ Kept g K w w' := by
  have hol := Nat.le_trans hk.ok.len hl
  have hsl := Nat.le_trans hk.ok.stkLen hol
  by_cases h0 : x < 0
  · have HE : Hid (mk1 room s x = s) := by show _ = _; unfold mk1; rw [if_pos (.inl h0)]
    have c0 : (x < 0) = True := eq_true h0
    have HM := Lib.hid hM
    clear hM hk hx h0
    go_enter Try.func69, Try.ntmps69
    go_wp2
    refine bodyPost_ret (v := .tuple #[]) (by simp [results, Try.results69, go_sem]) rfl ⟨rfl, by rw [HE.out]; exact HM.out, Kept.refl _ _ _⟩
  · have hxl := hx.resolve_left h0
    have hxw := lives_lt hxl
    have c0 : (x < 0) = False := eq_false h0
    have HM := Lib.hid hM
    obtain ⟨O, on, oc, S, sn, sc, h, hK⟩ := hM
    obtain ⟨hon, hsn⟩ := h.lens
    obtain ⟨_, _, hv, _, hOA⟩ := h.ownO.arr
    injection hv with v1 v2 v3
    subst v1 v3
    rw [← v2] at hOA
    have HIN := Lib.hid (in_ref O on oc _ x s.on w (by unfold maxLen; omega) hOA)
    have d3 : w.cell? ⟨g + 3, 0, none⟩ = some (.slice O on oc) := h.bo.cell 0
    clear v2 hOA
    by_cases hin : x ∈ s.on
    · rw [show decide (x ∈ s.on) = true by simpa using hin] at HIN
      have HE : Hid (mk1 room s x = s) := by show _ = _; unfold mk1; rw [if_pos (.inr hin)]
      clear h hK hon hsn hk hx hin
      go_enter Try.func69, Try.ntmps69
      go_wp2_with fail
      refine HIN.out.mono ?_
      rintro e w1 ⟨rfl, rfl⟩
      go_wp2
      refine bodyPost_ret (v := .tuple #[]) (by simp [results, Try.results69, go_sem]) rfl ⟨rfl, by rw [HE.out]; exact HM.out, Kept.refl _ _ _⟩
    · rw [show decide (x ∈ s.on) = false by simpa using hin] at HIN
      have hlt := h.lt
      obtain ⟨v', w2, hrun, hO', hG⟩ := h.ownO.pushG (P := Try.prog) (t := 54) (ty := 54) Try.underlying54 intI_info (by omega) (x := x) (wf_i64.2 (by omega)) (by omega) hlt
      obtain ⟨O', oc', hv, _, _⟩ := hO'.arr
      subst hv
      have hM2 := h.mark hG hO'
      have hK2 : Kept g K w (w2.setCell ⟨g + 3, 0, none⟩ (.slice O' (s.on ++ [x]).length oc')) := (Kept.grew hG (by omega) (fun b e => by have := h.ownO.row b e; omega) fun r hr => ⟨(hK r hr).2.1, (hK r hr).2.2.1⟩).set (by omega) (fun r hr => by have := (hK r hr).1; omega) _ _
      have hR2 := RMk.of hK hM2 hG.loc (.inl rfl) (by rw [size_setCell]; exact hG.size)
      have hbo : Box w2 (g + 3) 54 #[.slice O on oc] := (hG.block (g + 3) (by omega) fun e => by have := h.ownO.row _ e; omega).trans h.bo
      have e3 : w2.cell? ⟨g + 3, 0, none⟩ = some (.slice O on oc) := hbo.cell 0
      have f3 := hbo.soft 0
      have HRN := Lib.hid hrun
      have HK2 := Lib.hid hK2
      have HR2 := Lib.hid hR2
      have HIO := Lib.hid hin
      have HKS := Lib.hid hk
      have d4 : (w2.setCell ⟨g + 3, 0, none⟩ (.slice O' (s.on ++ [x]).length oc')).cell? ⟨g + 4, 0, none⟩ = some (.slice S sn sc) := hM2.bs.cell 0
      have d1 : (w2.setCell ⟨g + 3, 0, none⟩ (.slice O' (s.on ++ [x]).length oc')).cell? ⟨g + 1, 0, none⟩ = some (.int .i64 room) := hM2.room.cell 0
      have HM2 := Lib.hid hM2
      have HKR : Hid (∀ r, K r → g + 8 ≤ r ∧ r < (w2.setCell ⟨g + 3, 0, none⟩ (.slice O' (s.on ++ [x]).length oc')).heap.size ∧ (Value.slice O' (s.on ++ [x]).length oc').ownBlock ≠ some r ∧ (Value.slice S sn sc).ownBlock ≠ some r) := fun r hr => by
        obtain ⟨k1, k2, k3, k4⟩ := hK r hr
        refine ⟨k1, by rw [size_setCell]; have := hG.size; omega, fun e => ?_, k4⟩
        rcases hG.loc with h1 | h1
        · rw [h1] at e; exact k3 e
        · have := h1 r e; omega
      have HSN := Lib.hid hsn
      have hs256 : sn ≤ 256 := by omega
      clear h hK hon hsn hk hx hin hrun hO' hG hM2 hK2 hR2 hbo HM hsl
      obtain ⟨N, hN⟩ : ∃ N, (s.on ++ [x]).length = N := ⟨_, rfl⟩
      rw [hN] at HRN HK2 HR2 HM2 d4 d1 HKR
      clear hN
      go_enter Try.func69, Try.ntmps69
      go_wp2_with fail
      refine HIN.out.mono ?_
      rintro e w1 ⟨rfl, rfl⟩
      clear HIN
      by_cases hfull : room ≤ sn
      · have c1 : ((room : Int) ≤ (sn : Int)) = True := eq_true (by omega)
        have HE : Hid (mk1 room s x = { s with on := s.on ++ [x], over := true }) := by
          show _ = _
          have := HSN.out
          unfold mk1
          rw [if_neg (by rintro (h | h); omega; exact HIO.out h), if_pos (by omega)]
        have hM3 := HM2.out.flag true
        have HR3 := Lib.hid (RMk.of HKR.out hM3 (.inl rfl) (.inl rfl) (by simp only [size_setCell]; exact Nat.le_refl _))
        have HK3 := Lib.hid (HK2.out.set (b := g + 5) (by omega) (fun r hr => by have := (HKR.out r hr).1; omega) 0 (.bool true))
        have d5 : (w2.setCell ⟨g + 3, 0, none⟩ (.slice O' N oc')).cell? ⟨g + 5, 0, none⟩ = some (.bool s.over) := HM2.out.over.cell 0
        have f5 := HM2.out.over.soft 0
        clear hM3 HM2 hfull
        go_wp2_with (at_builtin; refine wpList_append_run rfl (.tmp 14) (.tmp 16) 54 rfl rfl rfl HRN.out ?_)
        refine bodyPost_ret (v := .tuple #[]) (by simp [results, Try.results69, go_sem]) rfl ⟨rfl, by rw [HE.out]; exact HR3.out, HK3.out⟩
      · have c1 : ((room : Int) ≤ (sn : Int)) = False := eq_false (by omega)
        have HE : Hid (mk1 room s x = { on := s.on ++ [x], stk := s.stk ++ [x], over := s.over, deep := max s.deep (s.stk.length + 1) }) := by
          show _ = _
          have := HSN.out
          unfold mk1
          rw [if_neg (by rintro (h | h); omega; exact HIO.out h), if_neg (by omega)]
        have hlt2 := HM2.out.lt
        have hown : Own .i64 3 (w2.setCell ⟨g + 3, 0, none⟩ (.slice O' N oc')) (g + 8) (.slice S sn sc) s.stk := HM2.out.ownS
        obtain ⟨v', w3, hrun, hO3, hG3⟩ := hown.pushG (P := Try.prog) (t := 54) (ty := 54) Try.underlying54 intI_info (by omega) (x := x) (wf_i64.2 (by omega)) (by have := HSN.out; omega) hlt2
        obtain ⟨S', sc', hv, _, _⟩ := hO3.arr
        subst hv
        have hM3 := HM2.out.stack hG3 hO3
        have hK3 : Kept g K w (w3.setCell ⟨g + 4, 0, none⟩ (.slice S' (s.stk ++ [x]).length sc')) := (HK2.out.trans (Kept.grew hG3 (by omega) (fun b e => by have := hown.row b e; omega) fun r hr => ⟨(HKR.out r hr).2.1, (HKR.out r hr).2.2.2⟩)).set (by omega) (fun r hr => by have := (HKR.out r hr).1; omega) _ _
        have hKR3 : ∀ r, K r → g + 8 ≤ r ∧ r < (w3.setCell ⟨g + 4, 0, none⟩ (.slice S' (s.stk ++ [x]).length sc')).heap.size ∧ (Value.slice O' N oc').ownBlock ≠ some r ∧ (Value.slice S' (s.stk ++ [x]).length sc').ownBlock ≠ some r := fun r hr => by
          obtain ⟨k1, k2, k3, k4⟩ := HKR.out r hr
          refine ⟨k1, by rw [size_setCell]; have := hG3.size; omega, k3, fun e => ?_⟩
          rcases hG3.loc with h1 | h1
          · rw [h1] at e; exact k4 e
          · have := h1 r e; omega
        have hbs : Box w3 (g + 4) 54 #[.slice S sn sc] := (hG3.block (g + 4) (by omega) fun e => by have := hown.row _ e; omega).trans HM2.out.bs
        have e4 : w3.cell? ⟨g + 4, 0, none⟩ = some (.slice S sn sc) := hbs.cell 0
        have f4 := hbs.soft 0
        have hM : (s.stk ++ [x]).length = sn + 1 := by have := HSN.out; rw [List.length_append, List.length_singleton]; omega
        obtain ⟨M, hMM⟩ : ∃ M, (s.stk ++ [x]).length = M := ⟨_, rfl⟩
        rw [hMM] at hrun hM3 hK3 hKR3 hM
        have HMM := Lib.hid hM
        have g6 : (w3.setCell ⟨g + 4, 0, none⟩ (.slice S' M sc')).cell? ⟨g + 6, 0, none⟩ = some (.int .i64 s.deep) := hM3.deep.cell 0
        have i6 := hM3.deep.soft 0
        have g4 : (w3.setCell ⟨g + 4, 0, none⟩ (.slice S' M sc')).cell? ⟨g + 4, 0, none⟩ = some (.slice S' M sc') := hM3.bs.cell 0
        have HEND : Hid (∀ D : Nat, max s.deep (s.stk.length + 1) = D → RMk A n c room g { on := s.on ++ [x], stk := s.stk ++ [x], over := s.over, deep := max s.deep (s.stk.length + 1) } K ((w3.setCell ⟨g + 4, 0, none⟩ (.slice S' M sc')).setCell ⟨g + 6, 0, none⟩ (.int .i64 D)) ∧ Kept g K w ((w3.setCell ⟨g + 4, 0, none⟩ (.slice S' M sc')).setCell ⟨g + 6, 0, none⟩ (.int .i64 D))) := fun D hD => by
          subst hD
          exact ⟨RMk.of hKR3 (hM3.deeper _) (.inl rfl) (.inl rfl) (by simp only [size_setCell]; exact Nat.le_refl _), hK3.set (by omega) (fun r hr => by have := (hKR3 r hr).1; omega) _ _⟩
        rw [size_setCell] at hrun
        have HRN2 := Lib.hid hrun
        clear hrun hO3 hG3 hM3 hK3 hKR3 hbs hM hMM hown HM2 HKR HK2 HR2 hlt2 hfull
        go_wp2_with (first
          | (at_builtin; refine wpList_append_run rfl (.tmp 14) (.tmp 16) 54 rfl rfl rfl HRN.out ?_)
          | (at_builtin; refine wpList_append_run rfl (.tmp 22) (.tmp 24) 54 rfl rfl rfl HRN2.out ?_))
        · refine bodyPost_end (v := .tuple #[]) (by simp [results, Try.results69, go_sem]) rfl ⟨rfl, by rw [HE.out]; exact (HEND.out M (by have := HMM.out; have := HSN.out; omega)).1, (HEND.out M (by have := HMM.out; have := HSN.out; omega)).2⟩
        · refine bodyPost_end (v := .tuple #[]) (by simp [results, Try.results69, go_sem]) rfl ⟨rfl, by rw [HE.out]; exact (HEND.out s.deep (by have := HMM.out; have := HSN.out; omega)).1, (HEND.out s.deep (by have := HMM.out; have := HSN.out; omega)).2⟩

theorem Arr.atLow {k : IntKind} {w w' : World} {B g n : Nat} {A : Option Addr} {zs : List Int} (h : Arr k w B A n zs) (hb : Below g w w') (hB : B ≤ g) (hg : g ≤ w.heap.size) : Arr k w' w'.heap.size A n zs := (h.below hb hB).more (Nat.le_trans hB (Nat.le_trans hg hb.size))
/-- What holds while the stack is emptied. -/
def Drain2J (zs : List Int) (A : Option Addr) (n c room g : Nat) (s : MS) (K : Nat → Prop) (w : World) (m : Nat) (wr : World) : Prop :=
  ∃ s', RMk A n c room g s' K wr ∧ MG (livesI zs) room s' ∧ drain (nxOf zs) room s' = drain (nxOf zs) room s ∧ Kept g K w wr ∧ mu (livesI zs) s' = m

set_option maxRecDepth 8000 in
set_option maxHeartbeats 4000000 in
theorem drain2_any {zs : List Int} {A : Option Addr} {n c room g : Nat} {s : MS} {K : Nat → Prop} (w : World) (hM : RMk A n c room g s K w) (ha : Arr .u64 w g A n zs) (h0 : arErr zs = 0) (hk : MG (livesI zs) room s) (hr : room ≤ 256) :
    Calls Try.prog 70 #[.pointer (some ⟨g + 4, 0, none⟩), .pointer (some ⟨g, 0, none⟩), .pointer (some ⟨g + 7, 0, none⟩)] w
      fun e w' => e = .returned (.tuple #[]) ∧ RMk A n c room g (drain (nxOf zs) room s) K w' ∧ Kept g K w w' := by
  obtain ⟨μ, hμ⟩ := least_fn (Drain2J zs A n c room g s K w)
  have HMU := Lib.hid hμ
  have HA := Lib.hid ha
  have H0 := Lib.hid h0
  have HCL := Lib.hid (lives_closed ha.2.1 h0)
  have hz256 := arena_len h0
  have HLL := Lib.hid (lives_len hz256)
  have hgw : g + 8 ≤ w.heap.size := hM.lt
  have HJ0 : Hid (∃ m, Drain2J zs A n c room g s K w m w) := ⟨_, s, hM, hk, rfl, Kept.refl _ _ _, rfl⟩
  clear hμ hM hk ha h0
  go_enter Try.func70, Try.ntmps70
  go_wp2_with fail
  go_loopw [8] (fun _ wr => Hid (∃ m, Drain2J zs A n c room g s K w m wr)) (fun _ wr => μ wr)
  case atStart => exact HJ0
  case round =>
    clear HJ0
    obtain ⟨s', hM, hG, hD, hKp, hmu⟩ := (HMU.out wr hrel.out).1
    obtain ⟨O, on, oc, S, sn, sc, h, hK⟩ := hM
    obtain ⟨hon, hsn⟩ := h.lens
    have d4 : wr.cell? ⟨g + 4, 0, none⟩ = some (.slice S sn sc) := h.bs.cell 0
    by_cases hs0 : s'.stk = []
    · have hz : sn = 0 := by rw [hsn, hs0]; rfl
      subst hz
      have HE : Hid (RMk A n c room g (drain (nxOf zs) room s) K wr) := by
        show RMk _ _ _ _ _ _ _ _
        rw [← hD, drain_done hs0]
        exact ⟨_, _, _, _, _, _, h, hK⟩
      have HKP := Lib.hid hKp
      clear h hK hG hD hKp hmu hs0 hsn hon hrel
      go_wp2
      refine bodyPost_end (v := .tuple #[]) (by simp [results, Try.results70, go_sem]) rfl ⟨rfl, HE.out, HKP.out⟩
    · have hpos : 0 < s'.stk.length := List.length_pos_iff.2 hs0
      obtain ⟨k, hkk⟩ : ∃ k, sn = k + 1 := ⟨sn - 1, by omega⟩
      obtain ⟨g', cap, hv, hgb, hglt, hcells, _⟩ := h.ownS.form hpos
      injection hv with e1 e2 e3
      subst e1 e3
      clear e2
      have hmem : nth s'.stk k ∈ s'.stk := nth_mem (by omega)
      have hlast : s'.stk.getLastD 0 = nth s'.stk k := by
        rw [List.getLastD_eq_getLast?, List.getLast?_eq_getElem?, show s'.stk.length - 1 = k by omega]
        rfl
      have hdrop : s'.stk.take k = s'.stk.dropLast := by rw [List.dropLast_eq_take]; congr 1; omega
      have hlive := hG.ok.sub _ (hG.ok.stk _ hmem)
      have hck := (hcells k (by omega)).1
      obtain ⟨t, ht, _⟩ := live_facts HA.out.2.1 hlive
      rw [ht] at hck hlive hlast
      have hown := h.ownS.upto (m := k) (by omega)
      rw [hdrop] at hown
      have hsc : k ≤ sc := by
        obtain ⟨_, _, hv, hle, _⟩ := h.ownS.arr
        injection hv with _ e2 e3
        omega
      have hM2 := h.stack (w' := wr) (S' := some ⟨g', 0, none⟩) (sn' := k) (sc' := sc) ⟨rfl, rfl, rfl, Nat.le_refl _, fun _ _ _ => rfl, .inl rfl⟩ hown
      have hR2 : RMk A n c room g { s' with stk := s'.stk.dropLast } K (wr.setCell ⟨g + 4, 0, none⟩ (.slice (some ⟨g', 0, none⟩) k sc)) := RMk.of hK hM2 (.inl rfl) (.inl rfl) (by rw [size_setCell]; exact Nat.le_refl _)
      have hK2 : Kept g K w (wr.setCell ⟨g + 4, 0, none⟩ (.slice (some ⟨g', 0, none⟩) k sc)) := hKp.set (by omega) (fun r hr => by have := (hK r hr).1; omega) _ _
      have s4 := h.bs.soft 0
      have c0 : (wr.setCell ⟨g + 4, 0, none⟩ (.slice (some ⟨g', 0, none⟩) k sc)).cell? ⟨g, 0, none⟩ = some (.slice A n c) := hM2.a.cell 0
      have HNM := Lib.hid (namedAt_any A n c t zs (wr.setCell ⟨g + 4, 0, none⟩ (.slice (some ⟨g', 0, none⟩) k sc)) (HA.out.atLow hK2.below (Nat.le_refl _) (by omega)) H0.out hlive)
      obtain ⟨D, hrD, hD2⟩ := run_upto (P := Try.prog) Try.underlying54 int_size (some ⟨g', 0, none⟩) sn sc k (k : Int) rfl hsc
      rw [hD2 g' 0 rfl] at hrD
      clear D hD2
      have HP : Hid (pop1 (nxOf zs) room s' = mkL room { s' with stk := s'.stk.dropLast } (named zs t)) := by
        show _ = _
        unfold pop1 nxOf
        rw [hlast, Int.toNat_natCast]
      have HNS := Lib.hid (named_sub HA.out.2.1 H0.out hlive)
      have HG2 := Lib.hid hG.popped
      have HJN : Hid (∀ w', RMk A n c room g (pop1 (nxOf zs) room s') K w' → Kept g K (wr.setCell ⟨g + 4, 0, none⟩ (.slice (some ⟨g', 0, none⟩) k sc)) w' → ∃ m, Drain2J zs A n c room g s K w m w' ∧ m < μ wr) := fun w' hm hb => by
        obtain ⟨p1, p2⟩ := pop1_ok (room := room) HCL.out hG.ok hs0
        refine ⟨_, ⟨pop1 (nxOf zs) room s', hm, ?_, ?_, hK2.trans hb, rfl⟩, by omega⟩
        · rw [HP.out]
          exact hG.popped.mkL (named_sub HA.out.2.1 H0.out hlive)
        · rw [← drain_step HLL.out HCL.out hG.ok hs0]; exact hD
      have HR2 := Lib.hid hR2
      have hn256 : (named zs t).length ≤ 256 := by
        have h2 : (named zs t).length ≤ zs.length := by unfold named refWords; rw [List.length_map, List.length_take, List.length_drop]; omega
        omega
      have q1 : (sn : Int) - 1 = k := by omega
      have q2 : IntKind.i64.wrap (k : Int) = k := IntWalk.i64_in _ (by have := hG.fits; omega)
      have q3 : k < sn := by omega
      have q4 : ¬ sn = 0 := by omega
      have q5 : (0 : Int) < (sn : Int) := by omega
      rw [HP.out] at HJN
      obtain ⟨s1, hs1⟩ : ∃ s1, ({ s' with stk := s'.stk.dropLast } : MS) = s1 := ⟨_, rfl⟩
      rw [hs1] at HJN HG2 HR2
      clear h hK hG hD hKp hmu hsn hon hkk hpos hcells hmem hlast hdrop hlive hown hsc hM2 hR2 hK2 hs0 ht HP hs1 hrel
      go_wp2_with fail
      generalize (wr.setCell ⟨g + 4, 0, none⟩ (.slice (some ⟨g', 0, none⟩) k sc)) = W2 at *
      refine HNM.out.mono ?_
      rintro e w4 ⟨A4, c4, rfl, b4, hA4, hi4⟩
      have HR4 := Lib.hid (HR2.out.add b4 hA4 hi4)
      have HA4 := Lib.hid hA4
      have HK4 := Lib.hid (HR2.out.kept b4)
      clear b4 hA4 hi4 HNM HR2 c0 hck hrD d4 s4
      obtain ⟨nn, hnn⟩ : ∃ q, (named zs t).length = q := ⟨_, rfl⟩
      rw [hnn] at HA4 HR4 hn256 ⊢
      have HNQ := Lib.hid hnn
      clear hnn
      go_wp2_with fail
      go_loopw [24] (fun i wr => ∃ q : Nat, q ≤ nn ∧ i = .int .i64 q ∧ Hid (RMk A n c room g (mkL room s1 ((named zs t).take q)) (fun r => K r ∨ (0 < nn ∧ ∃ off, A4 = some ⟨r, off, none⟩)) wr) ∧ Hid (Kept g (fun r => K r ∨ (0 < nn ∧ ∃ off, A4 = some ⟨r, off, none⟩)) w4 wr)) (fun i _ => nn - (intOf i).toNat)
      case atStart => exact ⟨0, Nat.zero_le _, rfl, HR4, Kept.refl _ _ _⟩
      case round =>
        clear HR4
        obtain ⟨q, hq, rfl, HRq, HKq⟩ := hrel
        by_cases hlq : q < nn
        · have hqn : q < (named zs t).length := by rw [HNQ.out]; exact hlq
          have hym := HNS.out _ (nth_mem hqn)
          have HTK := Lib.hid (take_nth hqn)
          have HGq : Hid (MG (livesI zs) room (mkL room s1 ((named zs t).take q))) := HG2.out.mkL fun x hx => HNS.out x (List.mem_of_mem_take hx)
          obtain ⟨b', off', hb', _, hcs⟩ := (HA4.out.kept HKq.out).2.2 (by omega)
          subst hb'
          have hc := hcs q hlq
          have HC := Lib.hid (mark1_any wr HRq.out HGq.out HLL.out hz256 hym)
          rw [← mkL_snoc, ← HTK.out] at HC
          obtain ⟨_, _, _, _, _, _, hi, _⟩ := HRq.out
          have d7 : wr.cell? ⟨g + 7, 0, none⟩ = some (.func (.func 69) #[] #[.pointer (some ⟨g + 3, 0, none⟩), .pointer (some ⟨g + 4, 0, none⟩), .pointer (some ⟨g + 1, 0, none⟩), .pointer (some ⟨g + 5, 0, none⟩), .pointer (some ⟨g + 6, 0, none⟩)]) := hi.fn.cell 0
          clear hcs hym hqn HTK HGq HRq hi
          generalize nth (named zs t) q = Y at *
          go_wp2_with fail
          refine HC.out.mono ?_
          rintro e w5 ⟨rfl, hm5, hk5⟩
          have HR5 := Lib.hid hm5
          have HK5 := Lib.hid (HKq.out.trans hk5)
          clear hm5 hk5 HC HKq d7 hc
          go_wp2
          go_roundw
          case rel => exact ⟨q + 1, by omega, by go_num, HR5.out, HK5.out⟩
          case measure => simp [intOf]; omega
        · obtain rfl : q = nn := by omega
          have HL : Hid ((named zs t).take q = named zs t) := by show _ = _; rw [List.take_of_length_le (by rw [HNQ.out]; exact Nat.le_refl _)]
          rw [HL.out] at HRq
          obtain ⟨m, hJ, hlt⟩ := HJN.out wr (HRq.out.less fun r hr => .inl hr) (HK4.out.trans (HKq.out.less fun r hr => .inl hr))
          have HJ := Lib.hid hJ
          have HLT := Lib.hid hlt
          clear hJ hlt HJN HRq HKq HL HK4
          go_wp2
          go_roundw
          case rel => exact ⟨m, HJ.out⟩
          case measure => exact Nat.lt_of_le_of_lt ((HMU.out wr ⟨m, HJ.out⟩).2 m HJ.out) HLT.out

set_option maxHeartbeats 1000000 in
theorem beginsH_any (A : Option Addr) (n c : Nat) (zs : List Int) (w : World) (ha : Arr .u64 w w.heap.size A n zs) (h : spErr zs = 0) :
    Calls Try.prog 63 #[.slice A n c] w fun e w' => ∃ A' c', e = .returned (.slice A' (livesI zs).length c') ∧ Below w.heap.size w w' ∧ Arr .i64 w' w'.heap.size A' (livesI zs).length (livesI zs) ∧ High w.heap.size A' (livesI zs).length := by
  obtain ⟨h256, hfine⟩ := spErr_zero h
  have hl := ha.1
  have hL := spList_ok h
  have hbl := begins_len (zs := zs) (a := 0)
  have hlen : (spList zs).length = (begins zs 0).length := by rw [hL]; simp
  obtain ⟨m, hm⟩ : ∃ m, (begins zs 0).length = m := ⟨_, rfl⟩
  rw [hm] at hlen hbl
  have hspot : ∀ k, k < m → nthG (spList zs) k = spOf zs (st zs k) ∧ st zs k < n := fun k hk => by
    have h1 := begins_mem (st_mem (zs := zs) (k := k) (by omega))
    exact ⟨by rw [hL, nthG_map _ _ _ (by omega)]; rfl, by omega⟩
  have HS := Lib.hid hspot
  have HM := Lib.hid hm
  have HC := Lib.hid (SpotsOf_any A n c zs w (by unfold maxLen; omega) ha)
  have HLN := Lib.hid hlen
  clear ha h hfine hL hspot hm hlen
  go_enter Try.func63, Try.ntmps63
  go_wp2_with fail
  refine HC.out.mono ?_
  rintro e w1 ⟨A2, c2, rfl, b1, hc2, hA2, _⟩
  rw [HLN.out] at hA2 hc2 ⊢
  have HB1 := Lib.hid b1
  have HA2 := Lib.hid hA2
  clear b1 hA2 hc2 HC
  go_wp2_with fail
  go_loopw [5, 15] (fun v i wr => ∃ k : Nat, k ≤ m ∧ i = .int .i64 k ∧ Hid (Own .i64 3 wr w1.heap.size v (livesTo zs k)) ∧ Hid (Below w1.heap.size w1 wr)) (fun _ i _ => m - (intOf i).toNat)
  case atStart => exact ⟨0, by omega, rfl, Own.nil, Below.refl _ _⟩
  case round =>
    obtain ⟨k, hk, rfl, hO, hB⟩ := hrel
    by_cases hlt : k < m
    · obtain ⟨hs, hsn⟩ := HS.out k hlt
      obtain ⟨b, off, rfl, _, q0, q1, q2, q3, q4⟩ := (HA2.out.below hB.out (Nat.le_refl _)).spot hlt
      rw [hs] at q0 q1 q2 q3 q4
      unfold spOf at q0 q1 q2 q3 q4
      simp only at q0 q1 q2 q3 q4
      have hba := (Below.refl _ wr).alloc (Nat.le_refl _) (.cells #[.int .i64 (st zs k), .int .i64 (vR (nth zs (st zs k))), .int .i64 (vB (nth zs (st zs k))), .int .i64 (vT (nth zs (st zs k))), .bool (vF (nth zs (st zs k)))] 112)
      cases hf : vF (nth zs (st zs k))
      · rw [hf] at q4 hba
        have hO1 := hO.out.below hba
        have hB1 := hB.out.trans (hba.mono hB.out.size)
        obtain ⟨v', w4, hrun, hO', hB'⟩ := hO1.push (P := Try.prog) (t := 54) (ty := 54) Try.underlying54 int_info (by omega) (x := (st zs k : Int)) (wf_i64.2 (by omega)) (by have := livesTo_len (zs := zs) k; omega) hB1.size
        rw [← livesTo_live (by rw [HM.out]; exact hlt) hf] at hO'
        rw [show (wr.alloc (.cells #[.int .i64 (st zs k), .int .i64 (vR (nth zs (st zs k))), .int .i64 (vB (nth zs (st zs k))), .int .i64 (vT (nth zs (st zs k))), .bool false] 112)).heap.size = wr.heap.size + 1 by simp] at hrun
        have HR := Lib.hid hrun
        have HO := Lib.hid hO'
        have HB := Lib.hid (hB1.trans hB')
        clear hba hO1 hB1 hrun hO' hB' hs hf hO hB
        generalize vR (nth zs (st zs k)) = R at *
        generalize vB (nth zs (st zs k)) = Bd at *
        generalize vT (nth zs (st zs k)) = T at *
        generalize st zs k = s at *
        go_wp2_with (at_builtin; refine wpList_append_run rfl (.tmp 23) (.tmp 26) 54 rfl rfl rfl HR.out ?_)
        go_roundw
        case rel => exact ⟨k + 1, by omega, by go_num, HO.out, HB.out⟩
        case measure => simp [intOf]; omega
      · rw [hf] at q4 hba
        have HO := Lib.hid (hO.out.below hba)
        have HB := Lib.hid (hB.out.trans (hba.mono hB.out.size))
        rw [← livesTo_free (by rw [HM.out]; exact hlt) hf] at HO
        clear hba hs hf hO hB
        generalize vR (nth zs (st zs k)) = R at *
        generalize vB (nth zs (st zs k)) = Bd at *
        generalize vT (nth zs (st zs k)) = T at *
        generalize st zs k = s at *
        go_wp2
        go_roundw
        case rel => exact ⟨k + 1, by omega, by go_num, HO.out, HB.out⟩
        case measure => simp [intOf]; omega
    · obtain rfl : k = m := by omega
      have hO1 := hO.out
      rw [← HM.out, livesTo_all] at hO1
      obtain ⟨A3, c3, rfl, _, hA3⟩ := hO1.arr
      have HA3 := Lib.hid hA3
      have HH3 := Lib.hid (hO1.high.less HB1.out.size)
      have HB := Lib.hid (HB1.out.trans (hB.out.mono HB1.out.size))
      clear hO1 hA3 hO hB
      go_wp2
      go_ret
      exact ⟨_, _, rfl, HB.out, HA3.out, HH3.out⟩

theorem Box.newAt {w : World} {t : TypeId} {cs : Array Value} {g : Nat} (hg : w.heap.size = g) : Box (w.alloc (.cells cs t)) g t cs := hg ▸ Box.new w t cs
/-- The variables as they are laid. -/
theorem rmi_new (A : Option Addr) (n c room : Nat) (w : World) : RMk A n c room w.heap.size ⟨[], [], false, 0⟩ (fun _ => False) ((((((((w.alloc (.cells #[.slice A n c] 22)).alloc (.cells #[.int .i64 room] 3)).alloc (.cells #[.slice none 0 0, .int .i64 0, .int .i64 0] 59)).alloc (.cells #[.slice none 0 0] 54)).alloc (.cells #[.slice none 0 0] 54)).alloc (.cells #[.bool false] 4)).alloc (.cells #[.int .i64 0] 3)).alloc (.cells #[markF w.heap.size] 100)) ∧ Below w.heap.size w ((((((((w.alloc (.cells #[.slice A n c] 22)).alloc (.cells #[.int .i64 room] 3)).alloc (.cells #[.slice none 0 0, .int .i64 0, .int .i64 0] 59)).alloc (.cells #[.slice none 0 0] 54)).alloc (.cells #[.slice none 0 0] 54)).alloc (.cells #[.bool false] 4)).alloc (.cells #[.int .i64 0] 3)).alloc (.cells #[markF w.heap.size] 100)) := by
  refine ⟨⟨none, 0, 0, none, 0, 0, ⟨?_, ?_, ?_, ?_, ?_, ?_, ?_, ?_, Own.nil, Own.nil, fun r e => by simp [Value.ownBlock] at e⟩, fun r hr => hr.elim⟩, ?_⟩
  · exact (((((((Box.newAt rfl).alloc _).alloc _).alloc _).alloc _).alloc _).alloc _).alloc _
  · exact ((((((Box.newAt (by simp)).alloc _).alloc _).alloc _).alloc _).alloc _).alloc _
  · exact (((((Box.newAt (by simp)).alloc _).alloc _).alloc _).alloc _).alloc _
  · exact ((((Box.newAt (by simp)).alloc _).alloc _).alloc _).alloc _
  · exact (((Box.newAt (by simp)).alloc _).alloc _).alloc _
  · exact ((Box.newAt (by simp)).alloc _).alloc _
  · exact (Box.newAt (by simp)).alloc _
  · exact Box.newAt (by simp)
  · exact ((((((((Below.refl _ w).alloc (Nat.le_refl _) _).alloc (by simp) _).alloc (by simp; omega) _).alloc (by simp; omega) _).alloc (by simp; omega) _).alloc (by simp; omega) _).alloc (by simp; omega) _).alloc (by simp; omega) _
/-- What holds between the passes. -/
def Mark2J (zs : List Int) (A : Option Addr) (n c room : Nat) (fr : List Int) (w : World) (m : Nat) (p : Value × World) : Prop :=
  ∃ s' q, p.1 = .int .i64 ((q : Nat) : Int) ∧ RMk A n c room w.heap.size s' (fun _ => False) p.2 ∧ MG (livesI zs) room s' ∧ Between (nxOf zs) (livesI zs) fr s' q ∧ passF (nxOf zs) room (livesI zs) 300 s' q = marking (nxOf zs) room (livesI zs) fr ∧ Below w.heap.size w p.2 ∧ (if s'.over = true then (livesI zs).length - s'.on.length + 1 else 0) = m

/-- What MarkRun answers. -/
def MarkRunP (zs fr : List Int) (n room : Nat) (w : World) (e : Ending) (w' : World) : Prop := ∃ D dc, ∃ p d : Nat, e = .returned (.agg #[.slice D ((n + 63) / 64) dc, .int .i64 p, .int .i64 d]) ∧ p = (marking (nxOf zs) room (livesI zs) fr).2 ∧ d = (marking (nxOf zs) room (livesI zs) fr).1.deep ∧
  Arr .u64 w' w'.heap.size D ((n + 63) / 64) (packTo (coversN zs ((marking (nxOf zs) room (livesI zs) fr).1.on.map Int.toNat)) n 0) ∧ Below w.heap.size w w'

/-- The closure that says what is marked. -/
theorem mark3_any {zs l : List Int} {A O : Option Addr} {n c on oc g g3 q : Nat} (w : World) (d0 : w.cell? ⟨g, 0, none⟩ = some (.slice A n c)) (d3 : w.cell? ⟨g3, 0, none⟩ = some (.slice O on oc)) (ha : Arr .u64 w w.heap.size A n zs) (h : arErr zs = 0) (hnf : on ≤ 256) (hl : Arr .i64 w w.heap.size O on l) (hs : ∀ x ∈ l, x ∈ livesI zs) :
    Calls Try.prog 71 #[.int .i64 q, .pointer (some ⟨g, 0, none⟩), .pointer (some ⟨g3, 0, none⟩)] w fun e w' => e = .returned (.bool (coversN zs (l.map Int.toNat) q)) ∧ Below w.heap.size w w' := by
  have HC := Lib.hid (covers_any A O n c on oc q zs l w ha h hnf hl hs)
  clear ha hl hs
  generalize coversN zs (l.map Int.toNat) q = V at *
  go_enter Try.func71, Try.ntmps71
  go_wp2_with fail
  refine HC.out.mono ?_
  rintro e w1 ⟨rfl, b1⟩
  have HB1 := Lib.hid b1
  clear b1 HC
  go_wp2
  go_ret
  exact ⟨rfl, HB1.out⟩
/-- No row of words is the result's block. -/
theorem off_res {w : World} {g B m : Nat} {t : TypeId} {D : Option Addr} {l : List Int} (hb : Box w g t #[.slice none 0 0, .int .i64 0, .int .i64 0]) (ha : Arr .u64 w B D m l) : Off (some g) D m := by
  intro b off hn hA e
  injection e with e
  subst e
  obtain ⟨b', off', e', _, hc⟩ := ha.2.2 hn
  rw [hA] at e'
  injection e' with e'
  injection e' with e1 e2
  subst e1 e2
  have h1 := hc 0 hn
  rw [Nat.add_zero, hb.cell off] at h1
  match off, h1 with
  | 0, h1 => simp at h1
  | 1, h1 => simp at h1
  | 2, h1 => simp at h1
  | k + 3, h1 => simp at h1

set_option maxRecDepth 16000 in
set_option maxHeartbeats 8000000 in
theorem markRun_any (A F : Option Addr) (n c nf cf room : Nat) (zs fr : List Int) (w : World) (ha : Arr .u64 w w.heap.size A n zs) (hnf : nf ≤ maxLen) (hfr : Arr .i64 w w.heap.size F nf fr) (h : fromE zs fr = 0) (hr : room ≤ 256) :
    Calls Try.prog 40 #[.slice A n c, .slice F nf cf, .int .i64 room] w (MarkRunP zs fr n room w) := by
  unfold maxLen at hnf
  have HA := Lib.hid ha
  have HF := Lib.hid hfr
  have H0 := Lib.hid h
  have hz256 := arena_len (fromE_zero h).1
  have HLL := Lib.hid (lives_len hz256)
  have HCL := Lib.hid (lives_closed ha.2.1 (fromE_zero h).1)
  have hl := ha.1
  clear ha hfr h
  have bx := Box.new (((((((w.alloc (.cells #[.slice A n c] 22)).alloc (.cells #[.int .i64 room] 3)).alloc (.cells #[.slice none 0 0, .int .i64 0, .int .i64 0] 59)).alloc (.cells #[.slice none 0 0] 54)).alloc (.cells #[.slice none 0 0] 54)).alloc (.cells #[.bool false] 4)).alloc (.cells #[.int .i64 0] 3)) 100 #[.nilFunc]
  have hsz : (((((((w.alloc (.cells #[.slice A n c] 22)).alloc (.cells #[.int .i64 room] 3)).alloc (.cells #[.slice none 0 0, .int .i64 0, .int .i64 0] 59)).alloc (.cells #[.slice none 0 0] 54)).alloc (.cells #[.slice none 0 0] 54)).alloc (.cells #[.bool false] 4)).alloc (.cells #[.int .i64 0] 3)).heap.size = w.heap.size + 1 + 1 + 1 + 1 + 1 + 1 + 1 := by simp
  rw [hsz] at bx
  have hst : ∀ F : Value, F.oneCell' = true → Sem.run Try.prog (store ⟨w.heap.size + 1 + 1 + 1 + 1 + 1 + 1 + 1, 0, none⟩ F) ((((((((w.alloc (.cells #[.slice A n c] 22)).alloc (.cells #[.int .i64 room] 3)).alloc (.cells #[.slice none 0 0, .int .i64 0, .int .i64 0] 59)).alloc (.cells #[.slice none 0 0] 54)).alloc (.cells #[.slice none 0 0] 54)).alloc (.cells #[.bool false] 4)).alloc (.cells #[.int .i64 0] 3)).alloc (.cells #[.nilFunc] 100)) = .ok () (((((((((w.alloc (.cells #[.slice A n c] 22)).alloc (.cells #[.int .i64 room] 3)).alloc (.cells #[.slice none 0 0, .int .i64 0, .int .i64 0] 59)).alloc (.cells #[.slice none 0 0] 54)).alloc (.cells #[.slice none 0 0] 54)).alloc (.cells #[.bool false] 4)).alloc (.cells #[.int .i64 0] 3)).alloc (.cells #[.nilFunc] 100)).setCell ⟨w.heap.size + 1 + 1 + 1 + 1 + 1 + 1 + 1, 0, none⟩ F) := fun F hF => by
    rw [run_store _ _ _ _ _ hF, bx.cell 0, bx.soft 0]
    rfl
  have hst1 := hst (.func (.func 69) #[] #[.pointer (some ⟨w.heap.size + 1 + 1 + 1, 0, none⟩), .pointer (some ⟨w.heap.size + 1 + 1 + 1 + 1, 0, none⟩), .pointer (some ⟨w.heap.size + 1, 0, none⟩), .pointer (some ⟨w.heap.size + 1 + 1 + 1 + 1 + 1, 0, none⟩), .pointer (some ⟨w.heap.size + 1 + 1 + 1 + 1 + 1 + 1, 0, none⟩)]) rfl
  clear hst hsz bx
  go_enter Try.func40, Try.ntmps40
  go_wp2_with fail
  obtain ⟨hR0, hB0⟩ := rmi_new A n c room w
  have HR0 := Lib.hid hR0
  have HB0 := Lib.hid hB0
  unfold markF at HR0 HB0
  clear hR0 hB0 hst1
  have ew : w.heap.size + 1 + 1 + 1 + 1 + 1 + 1 + 1 = w.heap.size + 7 := rfl
  generalize hW0 : ((((((((w.alloc (.cells #[.slice A n c] 22)).alloc (.cells #[.int .i64 room] 3)).alloc (.cells #[.slice none 0 0, .int .i64 0, .int .i64 0] 59)).alloc (.cells #[.slice none 0 0] 54)).alloc (.cells #[.slice none 0 0] 54)).alloc (.cells #[.bool false] 4)).alloc (.cells #[.int .i64 0] 3)).alloc (.cells #[.func (.func 69) #[] #[.pointer (some ⟨w.heap.size + 1 + 1 + 1, 0, none⟩), .pointer (some ⟨w.heap.size + 1 + 1 + 1 + 1, 0, none⟩), .pointer (some ⟨w.heap.size + 1, 0, none⟩), .pointer (some ⟨w.heap.size + 1 + 1 + 1 + 1 + 1, 0, none⟩), .pointer (some ⟨w.heap.size + 1 + 1 + 1 + 1 + 1 + 1, 0, none⟩)]] 100)) = W0 at *
  clear hW0 ew
  have HLV := Lib.hid (fromE_zero H0.out).2
  have hne : arErr zs = 0 := (fromE_zero H0.out).1
  have HNE := Lib.hid hne
  clear hne
  go_loopw [24] (fun i wr => ∃ k : Nat, k ≤ nf ∧ i = .int .i64 k ∧ Hid (RMk A n c room w.heap.size (mkL room ⟨[], [], false, 0⟩ (fr.take k)) (fun _ => False) wr) ∧ Hid (Below w.heap.size w wr)) (fun i _ => nf - (intOf i).toNat)
  case atStart => exact ⟨0, Nat.zero_le _, rfl, HR0, HB0⟩
  case round =>
    obtain ⟨k, hk, rfl, HRk, HBk⟩ := hrel
    clear HR0 HB0
    by_cases hlt : k < nf
    · have hfl := HF.out.1
      have hmem := HLV.out (nth fr k) (nth_mem (by omega))
      have HTK := Lib.hid (take_nth (l := fr) (k := k) (by omega))
      obtain ⟨b', off, hb', _, hcs⟩ := (HF.out.below HBk.out (Nat.le_refl _)).2.2 (by omega)
      subst hb'
      have hc := hcs k hlt
      have HG : Hid (MG (livesI zs) room (mkL room ⟨[], [], false, 0⟩ (fr.take k))) := begun_MG fun x hx => HLV.out x (List.mem_of_mem_take hx)
      have HC := Lib.hid (mark1_any wr HRk.out HG.out HLL.out hz256 (.inr hmem))
      rw [← mkL_snoc, ← HTK.out] at HC
      obtain ⟨_, _, _, _, _, _, hi, _⟩ := HRk.out
      have d7 : wr.cell? ⟨w.heap.size + 1 + 1 + 1 + 1 + 1 + 1 + 1, 0, none⟩ = some (.func (.func 69) #[] #[.pointer (some ⟨w.heap.size + 1 + 1 + 1, 0, none⟩), .pointer (some ⟨w.heap.size + 1 + 1 + 1 + 1, 0, none⟩), .pointer (some ⟨w.heap.size + 1, 0, none⟩), .pointer (some ⟨w.heap.size + 1 + 1 + 1 + 1 + 1, 0, none⟩), .pointer (some ⟨w.heap.size + 1 + 1 + 1 + 1 + 1 + 1, 0, none⟩)]) := hi.fn.cell 0
      clear hcs hmem hfl HG HTK HRk hi
      generalize nth fr k = X at *
      go_wp2_with fail
      refine HC.out.mono ?_
      rintro e w3 ⟨rfl, hm3, hb3⟩
      have HM3 := Lib.hid hm3
      have HB3 := Lib.hid (HBk.out.trans hb3.below)
      clear hm3 hb3 HC HBk d7 hc
      go_wp2
      go_roundw
      case rel => exact ⟨k + 1, by omega, by go_num, HM3.out, HB3.out⟩
      case measure => simp [intOf]; omega
    · obtain rfl : k = nf := by omega
      have HL : Hid (fr.take k = fr) := by
        show _ = _
        rw [List.take_of_length_le (by rw [HF.out.1]; exact Nat.le_refl _)]
      rw [HL.out] at HRk
      have HD := Lib.hid (drain2_any wr HRk.out (HA.out.below HBk.out (Nat.le_refl _)) HNE.out (begun_MG HLV.out) hr)
      clear HL HRk
      go_wp2_with fail
      refine HD.out.mono ?_
      rintro e w3 ⟨rfl, hm3, hb3⟩
      obtain ⟨μ, hμ⟩ := least_fn (Mark2J zs A n c room fr w)
      have HMU := Lib.hid hμ
      have HJ0 : Hid (∃ m, Mark2J zs A n c room fr w m (.int .i64 0, w3)) := ⟨_, begun (nxOf zs) room fr, 0, rfl, hm3, (begun_MG HLV.out).drain HLL.out HCL.out, begun_between HLL.out HCL.out HLV.out lives_pos, rfl, HBk.out.trans hb3.below, rfl⟩
      clear hμ hm3 hb3 HD HBk
      go_wp2_with fail
      go_loopw [10, 34] (fun p _ wr => Hid (∃ m, Mark2J zs A n c room fr w m (p, wr))) (fun p _ wr => μ (p, wr))
      case atStart => exact HJ0
      case round =>
        clear HJ0
        obtain ⟨s', p, hp, hM, hG, hBt, hP, hBw, hmu⟩ := (HMU.out _ hrel.out).1
        simp only at hp hM hBw hmu
        subst hp
        have hpn := Nat.le_trans hBt.some hG.ok.len
        have hp256 : p ≤ 256 := Nat.le_trans hpn HLL.out
        obtain ⟨O, on, oc, S, sn, sc, h, _⟩ := hM
        have d5 : wr.cell? ⟨w.heap.size + 1 + 1 + 1 + 1 + 1, 0, none⟩ = some (.bool s'.over) := h.over.cell 0
        cases ho : s'.over
        · rw [ho] at d5
          rw [passF_off ho] at hP
          have hm1 : (marking (nxOf zs) room (livesI zs) fr).1 = s' := by rw [← hP]
          have hm2 : (marking (nxOf zs) room (livesI zs) fr).2 = p := by rw [← hP]
          have HM1 := Lib.hid hm1
          have HM2 := Lib.hid hm2
          obtain ⟨hon, _⟩ := h.lens
          have hon2 : on ≤ 256 := by rw [hon]; exact Nat.le_trans hG.ok.len HLL.out
          obtain ⟨_, _, hv, _, hOA⟩ := h.ownO.arr
          injection hv with v1 v2 v3
          subst v1 v3
          rw [← v2] at hOA
          clear v2
          have hwr : w.heap.size ≤ wr.heap.size := hBw.size
          have hF : ∀ wx, Below wr.drew.heap.size wr.drew wx → ∀ k : Nat, k < n → Calls Try.prog 71 (#[.int .i64 k] ++ #[.pointer (some ⟨w.heap.size, 0, none⟩), .pointer (some ⟨w.heap.size + 1 + 1 + 1, 0, none⟩)]) wx (fun e w' => e = .returned (.bool (coversN zs (s'.on.map Int.toNat) k)) ∧ Below wx.heap.size wx w') := fun wx hb k hk => by
            have hb' : Below wr.heap.size wr wx := below_of_drew hb
            exact mark3_any wx ((h.a.below hb' h.a.lt).cell 0) ((h.bo.below hb' h.bo.lt).cell 0) (HA.out.later (bthen hBw hb')) HNE.out hon2 (hOA.later hb') hG.ok.sub
          have HMO := Lib.hid (marksOf_any n 71 #[.pointer (some ⟨w.heap.size, 0, none⟩), .pointer (some ⟨w.heap.size + 1 + 1 + 1, 0, none⟩)] (coversN zs (s'.on.map Int.toNat)) wr.drew (by omega) Try.call71 hF)
          unfold MarksOfP at HMO
          have hS0 : wr.drew.cell? ⟨w.heap.size, 0, none⟩ = some (.slice A n c) ∧ wr.drew.cell? ⟨w.heap.size + 1 + 1 + 1 + 1 + 1 + 1, 0, none⟩ = some (.int .i64 s'.deep) := ⟨h.a.cell 0, h.deep.cell 0⟩
          have HI := Lib.hid (h.next (w' := wr.drew) (below_drewN (Below.refl _ _) 1))
          have HBd : Hid (Below w.heap.size w wr.drew) := below_drewN hBw 1
          obtain ⟨LL, hLL⟩ : ∃ LL, (n + 63) / 64 = LL := ⟨_, rfl⟩
          rw [hLL] at HMO
          have HLLQ := Lib.hid hLL
          clear h hG hBt hP hBw hmu ho hrel hpn hm1 hm2 hon hOA hF hLL
          go_wp2_with fail
          refine wp_region_Y 7 (fun w' => w'.cell? ⟨w.heap.size, 0, none⟩ = some (.slice A n c) ∧ w'.cell? ⟨w.heap.size + 1 + 1 + 1 + 1 + 1 + 1, 0, none⟩ = some (.int .i64 s'.deep)) (by kernel_rfl) ?_
          change anyY _ _ _ _ _ _ _ _ _ wr.drew
          clear d5
          generalize wr.drew = W1 at *
          refine anyY_take (i := 0) (v := .slice A n c) rfl rfl (by kernel_rfl) rfl (by kernel_rfl) (by kernel_rfl) (by kernel_rfl) (by kernel_rfl) (fun _ _ _ h => h) (Or.inl ⟨by rfl, fun wx hS => ?_⟩) hS0 ?_
          · obtain ⟨q1, q2⟩ := hS
            go_simp
          refine anyY_pure (i := 1) (v := .int .i64 n) rfl rfl rfl (by kernel_rfl) (by kernel_rfl) (by kernel_rfl) (fun _ _ _ h => h) (Or.inl ⟨by rfl, fun wx _ => ?_⟩) (.inr hS0) ?_
          · go_simp
          refine anyY_pure (i := 2) (v := .func (.func 71) #[] #[.pointer (some ⟨w.heap.size, 0, none⟩), .pointer (some ⟨w.heap.size + 1 + 1 + 1, 0, none⟩)]) rfl rfl rfl (by kernel_rfl) (by kernel_rfl) (by kernel_rfl) (fun _ _ _ h => h) (Or.inl ⟨by rfl, fun wx _ => ?_⟩) (.inr hS0) ?_
          · go_simp
          refine anyY_pure (i := 4) (v := .int .i64 (p : Int)) rfl rfl rfl (by kernel_rfl) (by kernel_rfl) (by kernel_rfl) (fun _ _ _ h => h) (Or.inl ⟨by rfl, fun wx _ => ?_⟩) (.inr hS0) ?_
          · go_simp
          refine anyY_take (i := 5) (v := .int .i64 (s'.deep : Int)) rfl rfl (by kernel_rfl) rfl (by kernel_rfl) (by kernel_rfl) (by kernel_rfl) (by kernel_rfl) (fun _ _ _ h => h) (Or.inl ⟨by rfl, fun wx hS => ?_⟩) hS0 ?_
          · obtain ⟨q1, q2⟩ := hS
            go_simp
          refine anyY_only (i := 3) (by kernel_rfl) ?_
          refine wpOp_step rfl fun K' hK' => ?_
          go_simp
          refine HMO.out.mono ?_
          rintro e w2 ⟨D, dc, rfl, hD, b2⟩
          have hI2 := HI.out.next b2
          have hS2 : w2.cell? ⟨w.heap.size, 0, none⟩ = some (.slice A n c) ∧ w2.cell? ⟨w.heap.size + 1 + 1 + 1 + 1 + 1 + 1, 0, none⟩ = some (.int .i64 s'.deep) := ⟨hI2.a.cell 0, hI2.deep.cell 0⟩
          refine hK' _ _ ⟨.inr (.inr hS2), ?_⟩
          clear hK'
          refine anyY_pure (i := 6) (v := .agg #[.slice D LL dc, .int .i64 (p : Int), .int .i64 (s'.deep : Int)]) rfl rfl rfl (by kernel_rfl) (by kernel_rfl) (by kernel_rfl) (fun _ _ _ h => h) (Or.inl ⟨by rfl, fun wx _ => ?_⟩) (.inr hS2) ?_
          · go_simp
          refine anyY_only (i := 7) (by kernel_rfl) ?_
          have e0 : w2.cell? ⟨w.heap.size + 1 + 1, 0, none⟩ = some (.slice none 0 0) := hI2.res.cell 0
          have e1 : w2.cell? ⟨w.heap.size + 1 + 1, 1, none⟩ = some (.int .i64 0) := hI2.res.cell 1
          have e2 : w2.cell? ⟨w.heap.size + 1 + 1, 2, none⟩ = some (.int .i64 0) := hI2.res.cell 2
          have f0 : w2.frozen? ⟨w.heap.size + 1 + 1, 0, none⟩ = false := hI2.res.soft 0
          have f1 : w2.frozen? ⟨w.heap.size + 1 + 1, 1, none⟩ = false := hI2.res.soft 1
          have f2 : w2.frozen? ⟨w.heap.size + 1 + 1, 2, none⟩ = false := hI2.res.soft 2
          have HBY : Hid (Box (((w2.setCell ⟨w.heap.size + 1 + 1, 0, none⟩ (.slice D LL dc)).setCell ⟨w.heap.size + 1 + 1, 1, none⟩ (.int .i64 p)).setCell ⟨w.heap.size + 1 + 1, 2, none⟩ (.int .i64 s'.deep)) (w.heap.size + 1 + 1) 59 #[.slice D LL dc, .int .i64 p, .int .i64 s'.deep]) := ((hI2.res.set 0 (.slice D LL dc)).set 1 (.int .i64 p)).set 2 (.int .i64 s'.deep)
          have hoff := off_res hI2.res hD
          have HAD : Hid (Arr .u64 (((w2.setCell ⟨w.heap.size + 1 + 1, 0, none⟩ (.slice D LL dc)).setCell ⟨w.heap.size + 1 + 1, 1, none⟩ (.int .i64 p)).setCell ⟨w.heap.size + 1 + 1, 2, none⟩ (.int .i64 s'.deep)) (((w2.setCell ⟨w.heap.size + 1 + 1, 0, none⟩ (.slice D LL dc)).setCell ⟨w.heap.size + 1 + 1, 1, none⟩ (.int .i64 p)).setCell ⟨w.heap.size + 1 + 1, 2, none⟩ (.int .i64 s'.deep)).heap.size D LL (packTo (coversN zs (s'.on.map Int.toNat)) n 0)) := by
            show Arr _ _ _ _ _ _
            rw [size_setCell, size_setCell, size_setCell]
            exact ((hD.setOff hoff _ _).setOff hoff _ _).setOff hoff _ _
          have HBE : Hid (Below w.heap.size w (((w2.setCell ⟨w.heap.size + 1 + 1, 0, none⟩ (.slice D LL dc)).setCell ⟨w.heap.size + 1 + 1, 1, none⟩ (.int .i64 p)).setCell ⟨w.heap.size + 1 + 1, 2, none⟩ (.int .i64 s'.deep))) := below_set (below_set (below_set (bthen HBd.out b2) (by omega) _ _) (by omega) _ _) (by omega) _ _
          refine wpOp_step rfl fun K' hK' => ?_
          go_simp
          refine hK' _ _ ⟨.inr (.inl rfl), anyY_done (by kernel_rfl) ?_ _⟩
          clear hK' e0 e1 e2 f0 f1 f2 hS0 hS2 hI2 hD b2 hoff HMO HI
          generalize (((w2.setCell ⟨w.heap.size + 1 + 1, 0, none⟩ (.slice D LL dc)).setCell ⟨w.heap.size + 1 + 1, 1, none⟩ (.int .i64 p)).setCell ⟨w.heap.size + 1 + 1, 2, none⟩ (.int .i64 s'.deep)) = W9 at *
          go_wp2
          have x0 : W9.cell? ⟨w.heap.size + 1 + 1, 0, none⟩ = some (.slice D LL dc) := HBY.out.cell 0
          have x1 : W9.cell? ⟨w.heap.size + 1 + 1, 1, none⟩ = some (.int .i64 p) := HBY.out.cell 1
          have x2 : W9.cell? ⟨w.heap.size + 1 + 1, 2, none⟩ = some (.int .i64 s'.deep) := HBY.out.cell 2
          refine bodyPost_ret (v := .agg #[.slice D LL dc, .int .i64 p, .int .i64 s'.deep]) (by simp [results, Try.results40, go_sem, x0, x1, x2]) rfl ⟨D, dc, p, s'.deep, by rw [HLLQ.out], HM2.out.symm, by rw [HM1.out], by rw [HLLQ.out, HM1.out]; exact HAD.out, HBE.out⟩
        · rw [ho] at d5
          have hM1 := h.flag false
          have HBl := Lib.hid (below_set hBw (g := w.heap.size + 5) (by omega) 0 (.bool false))
          have hR1 : RMk A n c room w.heap.size { s' with over := false } (fun _ => False) (wr.setCell ⟨w.heap.size + 5, 0, none⟩ (.bool false)) := ⟨_, _, _, _, _, _, hM1, fun r hr => hr.elim⟩
          have s5 := h.over.soft 0
          have c0 : (wr.setCell ⟨w.heap.size + 5, 0, none⟩ (.bool false)).cell? ⟨w.heap.size, 0, none⟩ = some (.slice A n c) := hM1.a.cell 0
          have HBG := Lib.hid (beginsH_any A n c zs (wr.setCell ⟨w.heap.size + 5, 0, none⟩ (.bool false)) (HA.out.atLow HBl.out (Nat.le_refl _) (Nat.le_refl _)) (arErr_zero HNE.out).1)
          have HR1 := Lib.hid hR1
          have HG1 : Hid (MG (livesI zs) room { s' with over := false }) := ⟨⟨hG.ok.nodup, hG.ok.sub, hG.ok.stk, hG.ok.snod⟩, hG.fits, hG.deep⟩
          have HJN : Hid (∀ w', RMk A n c room w.heap.size (sweep (nxOf zs) room { s' with over := false } (livesI zs)) (fun _ => False) w' → Below w.heap.size w w' → ∃ m, Mark2J zs A n c room fr w m (.int .i64 ((p + 1 : Nat) : Int), w') ∧ m < μ (.int .i64 (p : Int), wr)) := fun w' hm hb => by
            obtain ⟨p1, p2⟩ := sweep_between (room := room) HLL.out HCL.out hBt ho
            refine ⟨_, ⟨_, p + 1, rfl, hm, ?_, p1, ?_, hb, rfl⟩, ?_⟩
            · exact MG.sweep HLL.out HCL.out HG1.out fun x hx => hx
            · rw [← pass_step HLL.out HCL.out hBt ho]; exact hP
            · rw [if_pos ho] at hmu
              split
              · rename_i h1
                have h2 := p2 h1
                have h3 := p1.rest.1.len
                omega
              · omega
          obtain ⟨s1, hs1⟩ : ∃ s1, ({ s' with over := false } : MS) = s1 := ⟨_, rfl⟩
          rw [hs1] at HJN HG1 HR1
          clear h hM1 hR1 hG hBt hP hBw hmu ho hrel hpn hs1
          have e5 : (wr.setCell ⟨w.heap.size + 1 + 1 + 1 + 1 + 1, 0, none⟩ (.bool false)).cell? ⟨w.heap.size, 0, none⟩ = some (.slice A n c) := c0
          clear c0
          go_wp2_with fail
          change Calls _ _ _ (wr.setCell ⟨w.heap.size + 5, 0, none⟩ (.bool false)) _
          generalize (wr.setCell ⟨w.heap.size + 5, 0, none⟩ (.bool false)) = W1 at *
          refine HBG.out.mono ?_
          rintro e w4 ⟨A3, c3, rfl, b4, hA3, hi3⟩
          have HR4 := Lib.hid (HR1.out.add b4 hA3 hi3)
          have HA3 := Lib.hid hA3
          have HB4 := Lib.hid (HBl.out.trans (b4.mono HBl.out.size))
          clear b4 hA3 hi3 HBG HR1 HBl d5 s5
          obtain ⟨ln, hln⟩ : ∃ q, (livesI zs).length = q := ⟨_, rfl⟩
          rw [hln] at HA3 HR4 ⊢
          have hln2 : ln ≤ 256 := by rw [← hln]; exact HLL.out
          have HLN := Lib.hid hln
          clear hln
          go_wp2_with fail
          go_loopw [40] (fun i wr => ∃ k : Nat, k ≤ ln ∧ i = .int .i64 k ∧ Hid (RMk A n c room w.heap.size (sweep (nxOf zs) room s1 ((livesI zs).take k)) (fun r => False ∨ (0 < ln ∧ ∃ off, A3 = some ⟨r, off, none⟩)) wr) ∧ Hid (Kept w.heap.size (fun r => False ∨ (0 < ln ∧ ∃ off, A3 = some ⟨r, off, none⟩)) w4 wr)) (fun i _ => ln - (intOf i).toNat)
          case atStart => exact ⟨0, Nat.zero_le _, rfl, HR4, Kept.refl _ _ _⟩
          case round =>
            clear HR4
            obtain ⟨k, hk, rfl, HRk, HKk⟩ := hrel
            by_cases hlt : k < ln
            · have hkl : k < (livesI zs).length := by rw [HLN.out]; exact hlt
              have hmem : nth (livesI zs) k ∈ livesI zs := nth_mem hkl
              have HTK := Lib.hid (take_nth hkl)
              have HGk : Hid (MG (livesI zs) room (sweep (nxOf zs) room s1 ((livesI zs).take k))) := HG1.out.sweep HLL.out HCL.out fun x hx => List.mem_of_mem_take hx
              obtain ⟨b', off, hb', _, hcs⟩ := (HA3.out.kept HKk.out).2.2 (by omega)
              subst hb'
              have hc := hcs k hlt
              obtain ⟨t, ht, _⟩ := live_facts HA.out.2.1 hmem
              rw [ht] at hc hmem HTK
              obtain ⟨s2, hs2⟩ : ∃ s2, sweep (nxOf zs) room s1 ((livesI zs).take k) = s2 := ⟨_, rfl⟩
              rw [hs2] at HRk HGk
              have HS : Hid (sweep (nxOf zs) room s1 ((livesI zs).take (k + 1)) = visit (nxOf zs) room s2 (t : Int)) := by
                show _ = _
                rw [HTK.out, sweep_snoc, hs2]
              obtain ⟨O, on, oc, S, sn, sc, hi, _⟩ := HRk.out
              obtain ⟨hon, _⟩ := hi.lens
              obtain ⟨_, _, hv, _, hOA⟩ := hi.ownO.arr
              injection hv with v1 v2 v3
              subst v1 v3
              rw [← v2] at hOA
              have hon2 : on ≤ 256 := by rw [hon]; exact Nat.le_trans HGk.out.ok.len HLL.out
              have HIN := Lib.hid (in_ref O on oc _ (t : Int) s2.on wr (by unfold maxLen; omega) hOA)
              have d3 : wr.cell? ⟨w.heap.size + 1 + 1 + 1, 0, none⟩ = some (.slice O on oc) := hi.bo.cell 0
              have d0 : wr.cell? ⟨w.heap.size, 0, none⟩ = some (.slice A n c) := hi.a.cell 0
              have HME := Lib.hid hmem
              clear hcs ht hmem hkl HTK hs2 hon v2 hOA hi
              by_cases hin : (t : Int) ∈ s2.on
              · rw [show decide ((t : Int) ∈ s2.on) = true by simpa using hin] at HIN
                have HV : Hid (visit (nxOf zs) room s2 (t : Int) = drain (nxOf zs) room (mkL room s2 (named zs t))) := by
                  show _ = _
                  unfold visit
                  rw [if_pos hin]
                  unfold nxOf
                  rw [Int.toNat_natCast]
                have HNM := Lib.hid (namedAt_any A n c t zs wr (HA.out.atLow (HB4.out.trans HKk.out.below) (Nat.le_refl _) (Nat.le_refl _)) HNE.out HME.out)
                have HNS := Lib.hid (named_sub HA.out.2.1 HNE.out HME.out)
                have hn256 : (named zs t).length ≤ 256 := by
                  have h2 : (named zs t).length ≤ zs.length := by unfold named refWords; rw [List.length_map, List.length_take, List.length_drop]; omega
                  omega
                clear hin
                go_wp2_with fail
                refine HIN.out.mono ?_
                rintro e w5 ⟨rfl, rfl⟩
                go_wp2_with fail
                refine HNM.out.mono ?_
                rintro e w5 ⟨A5, c5, rfl, b5, hA5, hi5⟩
                have HR5 := Lib.hid (HRk.out.add b5 hA5 hi5)
                have HA5 := Lib.hid hA5
                have HK5 := Lib.hid (HKk.out.trans (HRk.out.kept b5))
                clear b5 hA5 hi5 HNM HIN HRk HKk hc d3 d0
                obtain ⟨nn, hnn⟩ : ∃ q, (named zs t).length = q := ⟨_, rfl⟩
                rw [hnn] at HA5 HR5 hn256 ⊢
                have HNQ := Lib.hid hnn
                clear hnn
                go_wp2_with fail
                go_loopw [51] (fun i wr => ∃ q : Nat, q ≤ nn ∧ i = .int .i64 q ∧ Hid (RMk A n c room w.heap.size (mkL room s2 ((named zs t).take q)) (fun r => (False ∨ (0 < ln ∧ ∃ off', (some ⟨b', off, none⟩ : Option Addr) = some ⟨r, off', none⟩)) ∨ (0 < nn ∧ ∃ off', A5 = some ⟨r, off', none⟩)) wr) ∧ Hid (Kept w.heap.size (fun r => (False ∨ (0 < ln ∧ ∃ off', (some ⟨b', off, none⟩ : Option Addr) = some ⟨r, off', none⟩)) ∨ (0 < nn ∧ ∃ off', A5 = some ⟨r, off', none⟩)) w5 wr)) (fun i _ => nn - (intOf i).toNat)
                case atStart => exact ⟨0, Nat.zero_le _, rfl, HR5, Kept.refl _ _ _⟩
                case round =>
                  clear HR5
                  obtain ⟨q, hq, rfl, HRq, HKq⟩ := hrel
                  by_cases hlq : q < nn
                  · have hqn : q < (named zs t).length := by rw [HNQ.out]; exact hlq
                    have hym := HNS.out _ (nth_mem hqn)
                    have HTK := Lib.hid (take_nth hqn)
                    have HGq : Hid (MG (livesI zs) room (mkL room s2 ((named zs t).take q))) := HGk.out.mkL fun x hx => HNS.out x (List.mem_of_mem_take hx)
                    obtain ⟨b5, off5, hb5, _, hcs⟩ := (HA5.out.kept HKq.out).2.2 (by omega)
                    subst hb5
                    have hc := hcs q hlq
                    have HC := Lib.hid (mark1_any wr HRq.out HGq.out HLL.out hz256 hym)
                    rw [← mkL_snoc, ← HTK.out] at HC
                    obtain ⟨_, _, _, _, _, _, hi, _⟩ := HRq.out
                    have d7 : wr.cell? ⟨w.heap.size + 1 + 1 + 1 + 1 + 1 + 1 + 1, 0, none⟩ = some (.func (.func 69) #[] #[.pointer (some ⟨w.heap.size + 1 + 1 + 1, 0, none⟩), .pointer (some ⟨w.heap.size + 1 + 1 + 1 + 1, 0, none⟩), .pointer (some ⟨w.heap.size + 1, 0, none⟩), .pointer (some ⟨w.heap.size + 1 + 1 + 1 + 1 + 1, 0, none⟩), .pointer (some ⟨w.heap.size + 1 + 1 + 1 + 1 + 1 + 1, 0, none⟩)]) := hi.fn.cell 0
                    clear hcs hym hqn HTK HGq HRq hi
                    generalize nth (named zs t) q = Y at *
                    go_wp2_with fail
                    refine HC.out.mono ?_
                    rintro e w6 ⟨rfl, hm6, hk6⟩
                    have HR6 := Lib.hid hm6
                    have HK6 := Lib.hid (HKq.out.trans hk6)
                    clear hm6 hk6 HC HKq d7 hc
                    go_wp2
                    go_roundw
                    case rel => exact ⟨q + 1, by omega, by go_num, HR6.out, HK6.out⟩
                    case measure => simp [intOf]; omega
                  · obtain rfl : q = nn := by omega
                    have HL : Hid ((named zs t).take q = named zs t) := by show _ = _; rw [List.take_of_length_le (by rw [HNQ.out]; exact Nat.le_refl _)]
                    rw [HL.out] at HRq
                    have hR6 := HRq.out.less (K' := fun r => False ∨ (0 < ln ∧ ∃ off', (some ⟨b', off, none⟩ : Option Addr) = some ⟨r, off', none⟩)) fun r hr => .inl hr
                    have HK6 := Lib.hid (HK5.out.trans (HKq.out.less fun r hr => .inl hr))
                    have HD := Lib.hid (drain2_any wr hR6 (HA.out.below (HB4.out.trans HK6.out.below) (Nat.le_refl _)) HNE.out (HGk.out.mkL HNS.out) hr)
                    clear HL HRq HKq hR6 HK5
                    go_wp2_with fail
                    refine HD.out.mono ?_
                    rintro e w7 ⟨rfl, hm7, hk7⟩
                    have HM7 : Hid (RMk A n c room w.heap.size (sweep (nxOf zs) room s1 ((livesI zs).take (k + 1))) (fun r => False ∨ (0 < ln ∧ ∃ off', (some ⟨b', off, none⟩ : Option Addr) = some ⟨r, off', none⟩)) w7) := by
                      show RMk _ _ _ _ _ _ _ _
                      rw [HS.out, HV.out]; exact hm7
                    have HK7 := Lib.hid (HK6.out.trans hk7)
                    clear hm7 hk7 HD HK6
                    go_wp2
                    go_roundw
                    case rel => exact ⟨k + 1, by omega, by go_num, HM7.out, HK7.out⟩
                    case measure => simp [intOf]; omega
              · rw [show decide ((t : Int) ∈ s2.on) = false by simpa using hin] at HIN
                have HV : Hid (visit (nxOf zs) room s2 (t : Int) = s2) := by
                  show _ = _
                  unfold visit
                  rw [if_neg hin]
                have HM7 : Hid (RMk A n c room w.heap.size (sweep (nxOf zs) room s1 ((livesI zs).take (k + 1))) (fun r => False ∨ (0 < ln ∧ ∃ off', (some ⟨b', off, none⟩ : Option Addr) = some ⟨r, off', none⟩)) wr) := by
                  show RMk _ _ _ _ _ _ _ _
                  rw [HS.out, HV.out]; exact HRk.out
                clear hin HRk
                go_wp2_with fail
                refine HIN.out.mono ?_
                rintro e w5 ⟨rfl, rfl⟩
                clear hc d3 d0
                go_wp2
                go_roundw
                case rel => exact ⟨k + 1, by omega, by go_num, HM7.out, HKk.out⟩
                case measure => simp [intOf]; omega
            · obtain rfl : k = ln := by omega
              have HL : Hid ((livesI zs).take k = livesI zs) := by show _ = _; rw [List.take_of_length_le (by rw [HLN.out]; exact Nat.le_refl _)]
              rw [HL.out] at HRk
              obtain ⟨m, hJ, hlt⟩ := HJN.out wr (HRk.out.less fun r hr => .inl hr) (HB4.out.trans HKk.out.below)
              have HJ := Lib.hid hJ
              have HLT := Lib.hid hlt
              clear hJ hlt HJN HRk HKk HL HB4
              go_wp2
              go_roundw
              case rel => exact ⟨m, HJ.out⟩
              case measure => exact Nat.lt_of_le_of_lt ((HMU.out _ ⟨m, HJ.out⟩).2 m HJ.out) HLT.out
end Go.Proofs.Ytcdlgohhjnpbmaa
