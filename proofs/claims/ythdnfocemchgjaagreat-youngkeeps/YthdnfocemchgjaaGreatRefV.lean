/-
  Contracts of the reference's Takes, Covers and MarkRun (the marker in boxed variables: 'RMk').
-/
import Derived.Test.YthdnfocemchgjaaGreatRefTk
import Derived.Test.YthdnfocemchgjaaGreatRefPack
namespace Go.Proofs.YthdnfocemchgjaaGreat
open Go.RowKit

/-- The header that the reference finds. -/
theorem headOf_any (A : Option Addr) (n c t : Nat) (zs : List Int) (w : World) (ha : Arr .u64 w w.heap.size A n zs) (h : arErr zs = 0) (ht : (t : Int) ∈ livesI zs) :
    Calls Tryz.prog 16 #[.slice A n c, .int .i64 t] w fun e w' => e = .returned (.tuple #[.agg #[.int .i64 (vR (nth zs t)), .int .i64 (vB (nth zs t)), .int .i64 (vT (nth zs t)), .bool false], .bool true]) ∧ Below w.heap.size w w' := by
  obtain ⟨j, hj, e0, hf⟩ := mem_lives.1 ht
  refine (headAt_any A n c (t : Int) zs w ha (arErr_zero h).1).mono ?_
  rintro e w' ⟨b, h⟩
  rcases h with ⟨i, hi, e1, _, he⟩ | ⟨hno, _⟩
  · have : st zs i = t := by omega
    rw [this] at he
    exact ⟨he, b⟩
  · have := hno j hj e0.symm
    rw [hf] at this
    cases this

/-- The blocks of 'K', and those below 'g', are as they were. -/
structure Kept (g : Nat) (K : Nat → Prop) (w w' : World) : Prop where
  below : Below g w w'
  keep : ∀ r, K r → w'.heap[r]? = w.heap[r]?
theorem Kept.trans {g : Nat} {K : Nat → Prop} {w w' w'' : World} (h : Kept g K w w') (h' : Kept g K w' w'') : Kept g K w w'' := ⟨h.below.trans h'.below, fun r hr => (h'.keep r hr).trans (h.keep r hr)⟩
theorem Kept.refl (g : Nat) (K : Nat → Prop) (w : World) : Kept g K w w := ⟨Below.refl _ _, fun _ _ => rfl⟩
section
variable {A : Option Addr} {n c room g : Nat} {s : MS} {K : Nat → Prop} {w w' : World} {O S : Option Addr} {on oc sn sc : Nat}
theorem Arr.kept {D : Option Addr} {m B : Nat} {l : List Int} (ha : Arr .i64 w B D m l) (hk : Kept g (fun r => K r ∨ (0 < m ∧ ∃ off, D = some ⟨r, off, none⟩)) w w') : Arr .i64 w' B D m l := by
  refine ⟨ha.1, ha.2.1, fun hm => ?_⟩
  obtain ⟨b, off, rfl, hb, hc⟩ := ha.2.2 hm
  refine ⟨b, off, rfl, hb, fun j hj => ?_⟩
  have := hk.keep b (.inr ⟨hm, off, rfl⟩)
  rw [← hc j hj]
  simp [World.cell?, this]
theorem Kept.less {K' : Nat → Prop} (h : Kept g K w w') (hk : ∀ r, K' r → K r) : Kept g K' w w' := ⟨h.below, fun r hr => h.keep r (hk r hr)⟩
theorem Kept.set {w' : World} (h : Kept g K w w') {b : Nat} (hb : g ≤ b) (hk : ∀ r, K r → r ≠ b) (j : Nat) (d : Value) : Kept g K w (w'.setCell ⟨b, j, none⟩ d) :=
  ⟨below_set h.below hb j d, fun r hr => (heap_setOther w' (hk r hr) j d).trans (h.keep r hr)⟩
theorem Kept.grew {v v' : Value} (hg : Grew w v w' v') (hb : g ≤ w.heap.size) (hv : ∀ b, v.ownBlock = some b → g ≤ b) (hk : ∀ r, K r → r < w.heap.size ∧ v.ownBlock ≠ some r) : Kept g K w w' :=
  ⟨hg.below hb hv, fun r hr => hg.block r (hk r hr).1 (hk r hr).2⟩
end

theorem Arr.atLow {k : IntKind} {w w' : World} {B g n : Nat} {A : Option Addr} {zs : List Int} (h : Arr k w B A n zs) (hb : Below g w w') (hB : B ≤ g) (hg : g ≤ w.heap.size) : Arr k w' w'.heap.size A n zs := (h.below hb hB).more (Nat.le_trans hB (Nat.le_trans hg hb.size))
set_option maxHeartbeats 1000000 in
theorem beginsH_any (A : Option Addr) (n c : Nat) (zs : List Int) (w : World) (ha : Arr .u64 w w.heap.size A n zs) (h : spErr zs = 0) :
    Calls Tryz.prog 14 #[.slice A n c] w fun e w' => ∃ A' c', e = .returned (.slice A' (livesI zs).length c') ∧ Below w.heap.size w w' ∧ Arr .i64 w' w'.heap.size A' (livesI zs).length (livesI zs) ∧ High w.heap.size A' (livesI zs).length := by
  obtain ⟨h256, hfine⟩ := spErr_zero h
  have hl := ha.1
  have hL := spList_ok h
  have hbl := begins_len (zs := zs) (a := 0)
  have hlen : (spList zs).length = (begins zs 0).length := by rw [hL]; simp
  obtain ⟨m, hm⟩ : ∃ m, (begins zs 0).length = m := ⟨_, rfl⟩
  rw [hm] at hlen hbl
  have hspot : ∀ k, k < m → nthG (spList zs) k = spOf zs (st zs k) ∧ st zs k < n := fun k hk => by
    have h1 := begins_mem (st_mem (zs := zs) (k := k) (by omega))
    exact ⟨by rw [hL, nthG_map _ _ _ (by omega)]; rfl, by omega⟩
  have HS := Lib.hid hspot
  have HM := Lib.hid hm
  have HC := Lib.hid (SpotsOf_any A n c zs w (by unfold maxLen; omega) ha)
  have HLN := Lib.hid hlen
  clear ha h hfine hL hspot hm hlen
  go_enter Tryz.func14, Tryz.ntmps14
  go_wp2_with fail
  refine HC.out.mono ?_
  rintro e w1 ⟨A2, c2, rfl, b1, hc2, hA2, _⟩
  rw [HLN.out] at hA2 hc2 ⊢
  have HB1 := Lib.hid b1
  have HA2 := Lib.hid hA2
  clear b1 hA2 hc2 HC
  go_wp2_with fail
  go_loopw [5, 15] (fun v i wr => ∃ k : Nat, k ≤ m ∧ i = .int .i64 k ∧ Hid (Own .i64 3 wr w1.heap.size v (livesTo zs k)) ∧ Hid (Below w1.heap.size w1 wr)) (fun _ i _ => m - (intOf i).toNat)
  case atStart => exact ⟨0, by omega, rfl, Own.nil, Below.refl _ _⟩
  case round =>
    obtain ⟨k, hk, rfl, hO, hB⟩ := hrel
    by_cases hlt : k < m
    · obtain ⟨hs, hsn⟩ := HS.out k hlt
      obtain ⟨b, off, rfl, _, q0, q1, q2, q3, q4⟩ := (HA2.out.below hB.out (Nat.le_refl _)).spot hlt
      rw [hs] at q0 q1 q2 q3 q4
      unfold spOf at q0 q1 q2 q3 q4
      simp only at q0 q1 q2 q3 q4
      have hba := (Below.refl _ wr).alloc (Nat.le_refl _) (.cells #[.int .i64 (st zs k), .int .i64 (vR (nth zs (st zs k))), .int .i64 (vB (nth zs (st zs k))), .int .i64 (vT (nth zs (st zs k))), .bool (vF (nth zs (st zs k)))] 56)
      cases hf : vF (nth zs (st zs k))
      · rw [hf] at q4 hba
        have hO1 := hO.out.below hba
        have hB1 := hB.out.trans (hba.mono hB.out.size)
        obtain ⟨v', w4, hrun, hO', hB'⟩ := hO1.push (P := Tryz.prog) (t := 23) (ty := 23) Tryz.underlying23 int_info (by omega) (x := (st zs k : Int)) (wf_i64.2 (by omega)) (by have := livesTo_len (zs := zs) k; omega) hB1.size
        rw [← livesTo_live (by rw [HM.out]; exact hlt) hf] at hO'
        rw [show (wr.alloc (.cells #[.int .i64 (st zs k), .int .i64 (vR (nth zs (st zs k))), .int .i64 (vB (nth zs (st zs k))), .int .i64 (vT (nth zs (st zs k))), .bool false] 56)).heap.size = wr.heap.size + 1 by simp] at hrun
        have HR := Lib.hid hrun
        have HO := Lib.hid hO'
        have HB := Lib.hid (hB1.trans hB')
        clear hba hO1 hB1 hrun hO' hB' hs hf hO hB
        generalize vR (nth zs (st zs k)) = R at *
        generalize vB (nth zs (st zs k)) = Bd at *
        generalize vT (nth zs (st zs k)) = T at *
        generalize st zs k = s at *
        go_wp2_with (at_builtin; refine wpList_append_run rfl (.tmp 23) (.tmp 26) 23 rfl rfl rfl HR.out ?_)
        go_roundw
        case rel => exact ⟨k + 1, by omega, by go_num, HO.out, HB.out⟩
        case measure => simp [intOf]; omega
      · rw [hf] at q4 hba
        have HO := Lib.hid (hO.out.below hba)
        have HB := Lib.hid (hB.out.trans (hba.mono hB.out.size))
        rw [← livesTo_free (by rw [HM.out]; exact hlt) hf] at HO
        clear hba hs hf hO hB
        generalize vR (nth zs (st zs k)) = R at *
        generalize vB (nth zs (st zs k)) = Bd at *
        generalize vT (nth zs (st zs k)) = T at *
        generalize st zs k = s at *
        go_wp2
        go_roundw
        case rel => exact ⟨k + 1, by omega, by go_num, HO.out, HB.out⟩
        case measure => simp [intOf]; omega
    · obtain rfl : k = m := by omega
      have hO1 := hO.out
      rw [← HM.out, livesTo_all] at hO1
      obtain ⟨A3, c3, rfl, _, hA3⟩ := hO1.arr
      have HA3 := Lib.hid hA3
      have HH3 := Lib.hid (hO1.high.less HB1.out.size)
      have HB := Lib.hid (HB1.out.trans (hB.out.mono HB1.out.size))
      clear hO1 hA3 hO hB
      go_wp2
      go_ret
      exact ⟨_, _, rfl, HB.out, HA3.out, HH3.out⟩

theorem Box.newAt {w : World} {t : TypeId} {cs : Array Value} {g : Nat} (hg : w.heap.size = g) : Box (w.alloc (.cells cs t)) g t cs := hg ▸ Box.new w t cs
/-- What MarkRun answers. -/
def MarkRunP (zs fr : List Int) (n room : Nat) (w : World) (e : Ending) (w' : World) : Prop := ∃ D dc, ∃ p d : Nat, e = .returned (.agg #[.slice D ((n + 63) / 64) dc, .int .i64 p, .int .i64 d]) ∧ p = (marking (nxOf zs) room (livesI zs) fr).2 ∧ d = (marking (nxOf zs) room (livesI zs) fr).1.deep ∧
  Arr .u64 w' w'.heap.size D ((n + 63) / 64) (packTo (coversN zs ((marking (nxOf zs) room (livesI zs) fr).1.on.map Int.toNat)) n 0) ∧ Below w.heap.size w w'

/-- No row of words is the result's block. -/
theorem off_res {w : World} {g B m : Nat} {t : TypeId} {D : Option Addr} {l : List Int} (hb : Box w g t #[.slice none 0 0, .int .i64 0, .int .i64 0]) (ha : Arr .u64 w B D m l) : Off (some g) D m := by
  intro b off hn hA e
  injection e with e
  subst e
  obtain ⟨b', off', e', _, hc⟩ := ha.2.2 hn
  rw [hA] at e'
  injection e' with e'
  injection e' with e1 e2
  subst e1 e2
  have h1 := hc 0 hn
  rw [Nat.add_zero, hb.cell off] at h1
  match off, h1 with
  | 0, h1 => simp at h1
  | 1, h1 => simp at h1
  | 2, h1 => simp at h1
  | k + 3, h1 => simp at h1

end Go.Proofs.YthdnfocemchgjaaGreat
