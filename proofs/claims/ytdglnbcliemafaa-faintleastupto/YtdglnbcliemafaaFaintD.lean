/-
  Package faint: Keep, Clear, Last.
-/
import Derived.Test.YtdglnbcliemafaaFaintN
import Derived.Test.YtdglnbcliemafaaCatB
import Derived.Test.YtdglnbcliemafaaBinI
import Derived.Deep.DeepCutAuto
namespace Go.Proofs.Ytdglnbcliemafaa
open Go.RowKit

theorem faint_info : (Try.prog.info? 32).map (fun i => (i.zero, i.size, i.bytes)) = some (some (.agg #[.int .i64 0, .int .i64 0]), 2, 16) := by kernel_rfl
/-- The pairs whose key is in a list; their values; one round. -/
def keptP (X : List Int) (ps : List (Int × Int)) : List (Int × Int) := ps.filter fun p => decide (p.1 ∈ X)
def keptV (X : List Int) (ps : List (Int × Int)) : List Int := (keptP X ps).map (·.2)
def growF (zs : List Int) (ps : List (Int × Int)) (X : List Int) : List Int := reachL zs (X ++ keptV X ps)
section
variable {zs fr X : List Int} {ps : List (Int × Int)} {k : Nat} {x : Int}
theorem keptP_more (h : k < ps.length) (hk : (nthG ps k).1 ∈ X) : keptP X (ps.take (k + 1)) = keptP X (ps.take k) ++ [nthG ps k] := by
  unfold keptP
  rw [List.take_succ_eq_append_getElem h, List.filter_append, ← nthG_get _ _ h]
  simp [hk]
theorem keptP_skip (h : k < ps.length) (hk : (nthG ps k).1 ∉ X) : keptP X (ps.take (k + 1)) = keptP X (ps.take k) := by
  unfold keptP
  rw [List.take_succ_eq_append_getElem h, List.filter_append, ← nthG_get _ _ h]
  simp [hk]
theorem keptP_len : (keptP X ps).length ≤ ps.length := List.length_filter_le _ _
theorem keptV_len : (keptV X ps).length ≤ ps.length := by unfold keptV; rw [List.length_map]; exact keptP_len
theorem keptV_mem : x ∈ keptV X ps ↔ ∃ p ∈ ps, p.1 ∈ X ∧ p.2 = x := by
  unfold keptV keptP
  rw [List.mem_map]
  constructor
  · rintro ⟨p, hp, rfl⟩
    obtain ⟨h1, h2⟩ := List.mem_filter.1 hp
    exact ⟨p, h1, by simpa using h2, rfl⟩
  · rintro ⟨p, hp, hk, rfl⟩
    exact ⟨p, List.mem_filter.2 ⟨hp, by simpa using hk⟩, rfl⟩
theorem pairW_more (h : k < ps.length) : pairW (ps.take (k + 1)) = pairW (ps.take k) ++ [(nthG ps k).1, (nthG ps k).2] := by
  unfold pairW
  rw [List.take_succ_eq_append_getElem h, List.flatMap_append, ← nthG_get _ _ h]
  simp
theorem pairW_len : (pairW ps).length = 2 * ps.length := by
  unfold pairW
  induction ps with
  | nil => rfl
  | cons p ps ih => rw [List.flatMap_cons, List.length_append, ih]; simp; omega
/-- One round more. -/
theorem FOk.grow (hz : ∀ z ∈ zs, (Lit.int .u64 z).wf = true) (h : fromE zs fr = 0) (hp : fromE zs (pairW ps) = 0) (hX : FOk zs fr ps X) :
    fromE zs (X ++ keptV X ps) = 0 ∧ FOk zs fr ps (growF zs ps X) ∧ X.length ≤ (growF zs ps X).length ∧ ((growF zs ps X).length = X.length → X = faintL zs fr ps) := by
  have hl2 : ∀ p ∈ ps, p.2 ∈ livesI zs := fun p hm => (fromE_zero hp).2 _ (pairW_mem.2 ⟨p, hm, .inr rfl⟩)
  have hf : fromE zs (X ++ keptV X ps) = 0 := fromE_ok (fromE_zero h).1 fun x hx => by
    rcases List.mem_append.1 hx with hx | hx
    · exact hX.live x hx
    · obtain ⟨p, hm, _, rfl⟩ := keptV_mem.1 hx
      exact hl2 p hm
  have hsub : ∀ x ∈ X, x ∈ growF zs ps X := fun x hx => (reachL_mem hz hf).2 (.base (List.mem_append_left _ hx))
  have hnd : X.Nodup := hX.rise.imp fun h => Int.ne_of_lt h
  have hle : X.length ≤ (growF zs ps X).length := sub_length hnd hsub
  refine ⟨hf, ⟨reachL_rise, reachL_lives, fun x hx => hsub x (hX.has x hx), fun x hx y hy h0 => (reachL_mem hz hf).2 (.step ((reachL_mem hz hf).1 hx) hy h0), fun x hx => ?_⟩, hle, fun he => ?_⟩
  · refine reach_least (S := fun x => x ∈ faintL zs fr ps) (fun x hx => ?_) (fun x hx y hy h0 => faint_next hz h hp hx hy h0) ((reachL_mem hz hf).1 hx)
    rcases List.mem_append.1 hx with hx | hx
    · exact hX.sound x hx
    · obtain ⟨p, hm, hk, rfl⟩ := keptV_mem.1 hx
      exact faint_pair hz h hp hm (hX.sound _ hk)
  · have hgX : ∀ x ∈ growF zs ps X, x ∈ X := fun x hx => by
      by_cases hn : x ∈ X
      · exact hn
      · have h1 : (x :: X).Nodup := List.nodup_cons.2 ⟨hn, hnd⟩
        have h2 := sub_length h1 (L := growF zs ps X) fun y hy => by
          rcases List.mem_cons.1 hy with rfl | hy
          · exact hx
          · exact hsub y hy
        rw [List.length_cons] at h2
        omega
    exact rise_ext hX.rise faintL_rise fun x => ⟨hX.sound x, faint_least hz h hp (S := fun x => x ∈ X) hX.has (fun x _ hx y hy h0 => hX.next x hx y hy h0) fun p hm hk =>
      hgX _ ((reachL_mem hz hf).2 (.base (List.mem_append_right _ (keptV_mem.2 ⟨p, hm, hk, rfl⟩))))⟩
end

set_option maxHeartbeats 400000 in
theorem faintHas_any (A : Option Addr) (n c B : Nat) (xs : List Int) (x : Int) (w : World) (hn : n ≤ maxLen) (ha : Arr .i64 w B A n xs) (hR : xs.Pairwise (· < ·)) :
    Calls Try.prog 38 #[.slice A n c, .int .i64 x] w fun e w' => e = .returned (.bool (decide (x ∈ xs))) ∧ w = w' := by
  have HB : Hid (Calls Try.prog 55 #[.slice A n c, .int .i64 x] w fun e w' => ∃ p : Int, e = .returned (.tuple #[.int .i64 p, .bool (decide (x ∈ xs))]) ∧ w = w') := (binI_any A n c B xs x w hn ha hR).mono fun _ _ ⟨p, h1, h2, _⟩ => ⟨p, h1, h2⟩
  clear ha hR
  generalize decide (x ∈ xs) = V at *
  go_enter Try.func38, Try.ntmps38
  go_wp2_with fail
  refine HB.out.mono ?_
  rintro e w1 ⟨p, rfl, rfl⟩
  go_wp2
  go_ret
  exact ⟨rfl, rfl⟩

/-- What read answers. -/
def fReadE (zs fr os : List Int) (m : Nat) (q : Int) : Int := if fromE zs fr ≠ 0 then fromE zs fr else if q < m then 2 else fromE zs os
theorem fReadE_cases (zs fr os : List Int) (m : Nat) (q : Int) : (fromE zs fr ≠ 0 → fReadE zs fr os m q = fromE zs fr) ∧ (fromE zs fr = 0 → q < m → fReadE zs fr os m q = 2) ∧ (fromE zs fr = 0 → ¬ q < m → fReadE zs fr os m q = fromE zs os) :=
  ⟨fun h => if_pos h, fun h h1 => by unfold fReadE; rw [if_neg (by simp [h]), if_pos h1], fun h h1 => by unfold fReadE; rw [if_neg (by simp [h]), if_neg h1]⟩
def FReadP (zs fr os : List Int) (m : Nat) (q : Int) (w : World) (e : Ending) (w' : World) : Prop := ∃ K k c, e = .returned (.tuple #[.slice K k c, .int .i64 (fReadE zs fr os m q)]) ∧ Below w.heap.size w w' ∧ k ≤ c ∧
  ((fReadE zs fr os m q ≠ 0 ∧ k = 0) ∨ (fReadE zs fr os m q = 0 ∧ k = (reachL zs fr).length ∧ Arr .i64 w' w'.heap.size K k (reachL zs fr)))
set_option maxRecDepth 8000 in
set_option maxHeartbeats 1000000 in
theorem faintRead_any (A F O : Option Addr) (n c nf cf m d : Nat) (zs fr os : List Int) (q : Int) (w : World) (h : ArenaFrom w A F n c nf cf zs fr) (ho : Arr .i64 w w.heap.size O m os) (hm : m * 8 ≤ 140737488355328) :
    Calls Try.prog 31 #[.slice A n c, .slice F nf cf, .slice O m d, .int .i64 q] w (FReadP zs fr os m q w) := by
  have hn := h.hn
  have hnc := h.hnc
  have hnf := h.hnf
  have HR := Lib.hid (reachF_any A F n c nf cf zs fr w (by unfold maxLen; omega) hnc h.arena (by unfold maxLen; omega) h.from_)
  have HO := Lib.hid (fun wx (hb : Below w.heap.size w wx) => Reach_any A O n c m d zs os wx (by unfold maxLen; omega) hnc (h.later hb).arena (by unfold maxLen; omega) ((ho.below hb (Nat.le_refl _)).more hb.size))
  have HF := Lib.hid (fReadE_cases zs fr os m q)
  unfold ReachF at HR
  unfold ReachP at HO
  clear h ho hn hnc hnf
  unfold FReadP
  generalize fReadE zs fr os m q = R at *
  generalize fromE zs fr = E at *
  generalize fromE zs os = G at *
  generalize reachL zs fr = L at *
  go_enter Try.func31, Try.ntmps31
  go_wp2_with fail
  refine HR.out.mono ?_
  rintro e w1 ⟨K, k, c1, rfl, b1, hkc, _, hk⟩
  have HB1 := Lib.hid b1
  have HK := Lib.hid hk
  have HOO := Lib.hid (HO.out w1 b1)
  clear hk HR HO b1
  by_cases hE : E = 0
  · subst hE
    have HKK := Lib.hid (HK.out.resolve_left fun h => h.1 rfl)
    clear HK
    by_cases hmq : q < (m : Int)
    · obtain rfl := HF.out.2.1 rfl (by omega)
      clear HOO
      go_wp2
      go_ret2
      exact ⟨none, 0, 0, rfl, HB1.out, Nat.le_refl _, .inl ⟨by decide, rfl⟩⟩
    · obtain rfl := HF.out.2.2 rfl (by omega)
      go_wp2_with fail
      refine HOO.out.mono ?_
      rintro e w2 ⟨K2, k2, c2, rfl, b2, _⟩
      have HB2 := Lib.hid (bthen HB1.out b2)
      have HA2 : Hid (Arr .i64 w2 w2.heap.size K k L) := HKK.out.2.2.later b2
      clear b2 HOO
      by_cases hG : R = 0
      · subst hG
        go_wp2
        go_ret2
        exact ⟨K, k, c1, rfl, HB2.out, hkc, HKK.out.2.1, HA2.out⟩
      · have hb : (R != 0) = true := by simpa using hG
        have HG := Lib.hid hG
        clear hG
        go_wp2
        go_ret2
        exact ⟨none, 0, 0, rfl, HB2.out, Nat.le_refl _, .inl ⟨HG.out, rfl⟩⟩
  · obtain rfl := HF.out.1 hE
    have hb : (R != 0) = true := by simpa using hE
    have HE := Lib.hid hE
    clear hE HOO HK
    go_wp2
    go_ret2
    exact ⟨none, 0, 0, rfl, HB1.out, Nat.le_refl _, .inl ⟨HE.out, rfl⟩⟩

/-- A list that is answered. -/
def ListP (l : List Int) (w : World) (e : Ending) (w' : World) : Prop := ∃ A c, e = .returned (.slice A l.length c) ∧ Below w.heap.size w w' ∧ l.length ≤ c ∧ Arr .i64 w' w'.heap.size A l.length l
def AliveP (X : List Int) (ps : List (Int × Int)) (w : World) (e : Ending) (w' : World) : Prop := ∃ A c, e = .returned (.slice A (keptP X ps).length c) ∧ Below w.heap.size w w' ∧ (keptP X ps).length ≤ c ∧ ArrG runC 2 w' w'.heap.size A (keptP X ps).length (keptP X ps)
set_option maxRecDepth 8000 in
set_option maxHeartbeats 1000000 in
theorem faintAlive_any (K P : Option Addr) (m d np cp : Nat) (X : List Int) (ps : List (Int × Int)) (w : World) (hm : m ≤ maxLen) (hK : Arr .i64 w w.heap.size K m X) (hR : X.Pairwise (· < ·)) (hp : FaintsIn w P np cp ps) (h32 : np ≤ 32) :
    Calls Try.prog 34 #[.slice K m d, .slice P np cp] w (AliveP X ps w) := by
  have HA := Lib.hid (fun wx (hb : Below w.heap.size w wx) => (hp.later hb).row)
  have HC := Lib.hid (fun x wx (hb : Below w.heap.size w wx) => faintHas_any K m d w.heap.size X x wx hm (hK.below hb (Nat.le_refl _)) hR)
  have HPL := Lib.hid hp.row.1
  clear hp hK hR hm
  unfold AliveP
  go_enter Try.func34, Try.ntmps34
  go_wp2_with fail
  go_loopw [5, 10] (fun v i wr => ∃ k : Nat, k ≤ np ∧ i = .int .i64 k ∧ Hid (OwnG runC 2 32 wr w.heap.size v (keptP X (ps.take k))) ∧ Hid (Below w.heap.size w wr)) (fun _ i _ => np - (intOf i).toNat)
  case atStart => exact ⟨0, Nat.zero_le _, rfl, OwnG.nil, Below.refl _ _⟩
  case round =>
    obtain ⟨k, hk, rfl, HO, HB⟩ := hrel
    by_cases hlt : k < np
    · have hkl : k < ps.length := by have := HPL.out; omega
      obtain ⟨b, off, rfl, hbl, hc0, hc1⟩ := (HA.out wr HB.out).run hlt
      have ba := (Below.refl _ wr).alloc (Nat.le_refl _) (.cells #[.int .i64 (nthG ps k).1, .int .i64 (nthG ps k).2] 32)
      have HBX := Lib.hid (Box.new wr 32 #[.int .i64 (nthG ps k).1, .int .i64 (nthG ps k).2])
      have HB1 := Lib.hid (bthen HB.out ba)
      have HQ := Lib.hid (HC.out (nthG ps k).1 _ HB1.out)
      have HO1 := Lib.hid (HO.out.below ba)
      clear HO ba hbl
      by_cases hin : (nthG ps k).1 ∈ X
      · rw [show decide ((nthG ps k).1 ∈ X) = true by simpa using hin] at HQ
        have hll : (keptP X (ps.take k)).length ≤ k := Nat.le_trans keptP_len (List.length_take_le _ _)
        obtain ⟨v', w6, hrun, hO', hB'⟩ := HO1.out.push (P := Try.prog) (t := 24) (ty := 24) runC_len runC_one (by omega) Try.underlying24 faint_info rfl (by omega) (nthG ps k) (by omega) HB1.out.size
        rw [← keptP_more hkl hin] at hO'
        have HO2 := Lib.hid hO'
        have HRN := Lib.hid hrun
        have HB2 := Lib.hid (HB1.out.trans hB')
        clear hin hO' hrun hB' hll HO1
        unfold runC at HRN
        generalize (nthG ps k).1 = U at *
        generalize (nthG ps k).2 = V at *
        go_wp2_with fail
        generalize wr.heap.size = gp at *
        generalize (wr.alloc (.cells #[.int .i64 U, .int .i64 V] 32)) = wa at *
        have y0 : wa.cell? ⟨gp, 0, none⟩ = some (.int .i64 U) := HBX.out.cell 0
        have y1 : wa.cell? ⟨gp, 1, none⟩ = some (.int .i64 V) := HBX.out.cell 1
        refine HQ.out.mono ?_
        rintro e w3 ⟨rfl, rfl⟩
        go_wp2_with (at_builtin; refine wpList_append_run rfl (.tmp 18) (.tmp 20) 24 rfl rfl rfl HRN.out ?_)
        go_roundw
        case rel => exact ⟨k + 1, by omega, by go_num, HO2, HB2⟩
        case measure => simp [intOf]; omega
      · rw [show decide ((nthG ps k).1 ∈ X) = false by simpa using hin] at HQ
        rw [← keptP_skip hkl hin] at HO1
        clear hin
        generalize (nthG ps k).1 = U at *
        generalize (nthG ps k).2 = V at *
        go_wp2_with fail
        refine HQ.out.mono ?_
        rintro e w3 ⟨rfl, rfl⟩
        go_wp2
        go_roundw
        case rel => exact ⟨k + 1, by omega, by go_num, HO1, HB1⟩
        case measure => simp [intOf]; omega
    · obtain rfl : k = np := by omega
      rw [List.take_of_length_le (by have := HPL.out; omega)] at HO
      obtain ⟨A', c', hv, hc', hA'⟩ := HO.out.arr runC_len
      subst hv
      have HA' := Lib.hid hA'
      have HC' := Lib.hid hc'
      clear hA' hc' HO
      obtain ⟨q, hq⟩ : ∃ q, (keptP X ps).length = q := ⟨_, rfl⟩
      rw [hq] at HA' HC' ⊢
      have HQ := Lib.hid hq
      clear hq
      go_wp2
      go_ret
      exact ⟨A', c', by rw [HQ.out]; rfl, HB.out, by rw [HQ.out]; exact HC'.out, by rw [HQ.out]; exact HA'.out⟩

set_option maxRecDepth 8000 in
set_option maxHeartbeats 1000000 in
theorem faintValues_any (K P : Option Addr) (m d np cp : Nat) (X : List Int) (ps : List (Int × Int)) (w : World) (hm : m ≤ maxLen) (hK : Arr .i64 w w.heap.size K m X) (hR : X.Pairwise (· < ·)) (hp : FaintsIn w P np cp ps) (h32 : np ≤ 32) :
    Calls Try.prog 33 #[.slice K m d, .slice P np cp] w (ListP (keptV X ps) w) := by
  have HAL := Lib.hid (faintAlive_any K P m d np cp X ps w hm hK hR hp h32)
  have HWF : Hid (∀ p ∈ keptP X ps, (Lit.int .i64 p.2).wf = true) := fun p hm => (hp.wf p (List.mem_filter.1 hm).1).2
  have HPL : Hid ((keptP X ps).length ≤ 32) := by
    have h1 := keptP_len (X := X) (ps := ps)
    have h2 := hp.row.1
    show _ ≤ _
    omega
  clear hm hK hR hp h32
  unfold ListP keptV
  unfold AliveP at HAL
  generalize keptP X ps = L at *
  obtain ⟨q, hq⟩ : ∃ q, L.length = q := ⟨_, rfl⟩
  rw [List.length_map]
  have HQ := Lib.hid hq
  rw [hq] at HAL HPL ⊢
  have hq32 := HPL.out
  go_enter Try.func33, Try.ntmps33
  go_wp2_with fail
  refine HAL.out.mono ?_
  rintro e w1 ⟨A1, c1, rfl, b1, hc1, hA1⟩
  have HA := Lib.hid (fun wx (hb : Below w1.heap.size w1 wx) => (hA1.below hb (Nat.le_refl _)).more hb.size)
  have HB0 := Lib.hid b1
  clear hA1 HAL b1
  go_wp2_with fail
  go_loopw [5, 12] (fun v i wr => ∃ k : Nat, k ≤ q ∧ i = .int .i64 k ∧ Hid (Own .i64 3 wr w1.heap.size v ((L.take k).map (·.2))) ∧ Hid (Below w1.heap.size w1 wr)) (fun _ i _ => q - (intOf i).toNat)
  case atStart => exact ⟨0, Nat.zero_le _, rfl, Own.nil, Below.refl _ _⟩
  case round =>
    obtain ⟨k, hk, rfl, HO, HB⟩ := hrel
    by_cases hlt : k < q
    · have hkl : k < L.length := by omega
      obtain ⟨b, off, rfl, hbl, hc0, hc1⟩ := (HA.out wr HB.out).run hlt
      have ba := (Below.refl _ wr).alloc (Nat.le_refl _) (.cells #[.int .i64 (nthG L k).1, .int .i64 (nthG L k).2] 32)
      have HBX := Lib.hid (Box.new wr 32 #[.int .i64 (nthG L k).1, .int .i64 (nthG L k).2])
      have HB1 := Lib.hid (bthen HB.out ba)
      have HO1 := Lib.hid (HO.out.below ba)
      have hnx : (L.take (k + 1)).map (·.2) = (L.take k).map (·.2) ++ [(nthG L k).2] := by rw [List.take_succ_eq_append_getElem hkl, List.map_append, ← nthG_get _ _ hkl]; rfl
      have hwx : (Lit.int .i64 (nthG L k).2).wf = true := HWF.out _ (by rw [nthG_get _ _ hkl]; exact List.getElem_mem _)
      have hll : ((L.take k).map (·.2)).length ≤ k := by rw [List.length_map]; exact List.length_take_le _ _
      obtain ⟨v', w6, hrun, hO', hG⟩ := HO1.out.pushGB (P := Try.prog) (t := 23) (ty := 23) Try.underlying23 intI_info (x := (nthG L k).2) hwx (by have := HPL.out; omega) HB1.out.size
      rw [← hnx] at hO'
      rw [show (wr.alloc (.cells #[.int .i64 (nthG L k).1, .int .i64 (nthG L k).2] 32)).heap.size = wr.heap.size + 1 by simp] at hrun
      have HRN := Lib.hid hrun
      have HO2 := Lib.hid hO'
      have HB2 := Lib.hid (HB1.out.trans (hG.below HB1.out.size HO1.out.row))
      clear hnx hwx hll hrun hO' hG HO HO1 ba hbl hkl
      generalize (nthG L k).1 = U at *
      generalize (nthG L k).2 = V at *
      go_wp2_with (at_builtin; refine wpList_append_run rfl (.tmp 16) (.tmp 19) 23 rfl rfl rfl HRN.out ?_)
      go_roundw
      case rel => exact ⟨k + 1, by omega, by go_num, HO2, HB2⟩
      case measure => simp [intOf]; omega
    · obtain rfl : k = q := by omega
      rw [List.take_of_length_le (by have := HQ.out; omega)] at HO
      obtain ⟨A', c', hv, hc', hA'⟩ := HO.out.arr
      rw [List.length_map, HQ.out] at hv hc' hA'
      subst hv
      have HA' := Lib.hid hA'
      have HC' := Lib.hid hc'
      have HB' := Lib.hid (bthen HB0.out HB.out)
      clear hA' hc' HO hq
      go_wp2
      go_ret
      exact ⟨A', c', rfl, HB'.out, HC'.out, HA'.out⟩

set_option maxRecDepth 8000 in
set_option maxHeartbeats 1000000 in
theorem faintEnds_any (P : Option Addr) (np cp : Nat) (ps : List (Int × Int)) (w : World) (hp : FaintsIn w P np cp ps) (hnp : np * 16 ≤ 140737488355328) :
    Calls Try.prog 32 #[.slice P np cp] w (ListP (pairW ps) w) := by
  have HA := Lib.hid (fun wx (hb : Below w.heap.size w wx) => (hp.later hb).row)
  have HWF := Lib.hid hp.wf
  have HPL := Lib.hid hp.row.1
  clear hp
  unfold ListP
  go_enter Try.func32, Try.ntmps32
  go_wp2_with fail
  go_loopw [3, 8] (fun v i wr => ∃ k : Nat, k ≤ np ∧ i = .int .i64 k ∧ Hid (Own .i64 3 wr w.heap.size v (pairW (ps.take k))) ∧ Hid (Below w.heap.size w wr)) (fun _ i _ => np - (intOf i).toNat)
  case atStart => exact ⟨0, Nat.zero_le _, rfl, Own.nil, Below.refl _ _⟩
  case round =>
    obtain ⟨k, hk, rfl, HO, HB⟩ := hrel
    by_cases hlt : k < np
    · have hkl : k < ps.length := by have := HPL.out; omega
      obtain ⟨b, off, rfl, hbl, hc0, hc1⟩ := (HA.out wr HB.out).run hlt
      have ba := (Below.refl _ wr).alloc (Nat.le_refl _) (.cells #[.int .i64 (nthG ps k).1, .int .i64 (nthG ps k).2] 32)
      have HBX := Lib.hid (Box.new wr 32 #[.int .i64 (nthG ps k).1, .int .i64 (nthG ps k).2])
      have HB1 := Lib.hid (bthen HB.out ba)
      have HO1 := Lib.hid (HO.out.below ba)
      obtain ⟨wf1, wf2⟩ := HWF.out _ (by rw [nthG_get _ _ hkl]; exact List.getElem_mem _ : nthG ps k ∈ ps)
      have hll : (pairW (ps.take k)).length = 2 * k := by rw [pairW_len, List.length_take]; omega
      obtain ⟨wa, hwa⟩ : ∃ wa, wr.alloc (.cells #[.int .i64 (nthG ps k).1, .int .i64 (nthG ps k).2] 32) = wa := ⟨_, rfl⟩
      rw [hwa] at HB1 HO1 HBX
      have hbA := (Below.refl _ wa).alloc (Nat.le_refl _) (.cells #[.int .i64 (nthG ps k).1, .int .i64 (nthG ps k).2] 3)
      have hWA : Whole .i64 3 (wa.alloc (.cells #[.int .i64 (nthG ps k).1, .int .i64 (nthG ps k).2] 3)) wa.heap.size [(nthG ps k).1, (nthG ps k).2] := whole_new .i64 3 wa [(nthG ps k).1, (nthG ps k).2] (by intro z hz; rcases List.mem_cons.1 hz with rfl | hz; exact wf1; rw [List.mem_singleton.1 hz]; exact wf2)
      obtain ⟨v', w6, hrun, hO', hB'⟩ := (HO1.out.below hbA).catB (P := Try.prog) (t := 23) (ty := 23) (c := 2) Try.underlying23 intI_info (hWA.arr hWA.lt) (by rw [hll]; show (2 * k + 2) * 8 ≤ _; omega) (Nat.le_trans HB1.out.size hbA.size)
      rw [← pairW_more hkl] at hO'
      have HRN := Lib.hid hrun
      have HO2 := Lib.hid hO'
      have HB2 := Lib.hid ((bthen HB1.out hbA).trans hB')
      rw [← hwa, show (wr.alloc (.cells #[.int .i64 (nthG ps k).1, .int .i64 (nthG ps k).2] 32)).heap.size = wr.heap.size + 1 by simp] at HRN
      clear hll hrun hO' hB' HO HO1 ba hbl hkl hbA hWA wf1 wf2 hwa
      generalize (nthG ps k).1 = U at *
      generalize (nthG ps k).2 = V at *
      go_wp2_with (at_builtin; refine wpList_append_run rfl (.tmp 12) (.tmp 17) 23 rfl rfl rfl HRN.out ?_)
      go_roundw
      case rel => exact ⟨k + 1, by omega, by go_num, HO2, HB2⟩
      case measure => simp [intOf]; omega
    · obtain rfl : k = np := by omega
      rw [List.take_of_length_le (by have := HPL.out; omega)] at HO
      obtain ⟨A', c', hv, hc', hA'⟩ := HO.out.arr
      subst hv
      have HA' := Lib.hid hA'
      have HC' := Lib.hid hc'
      clear hA' hc' HO
      obtain ⟨q, hq⟩ : ∃ q, (pairW ps).length = q := ⟨_, rfl⟩
      rw [hq] at HA' HC' ⊢
      have HQ := Lib.hid hq
      clear hq
      go_wp2
      go_ret
      exact ⟨A', c', by rw [HQ.out]; rfl, HB.out, by rw [HQ.out]; exact HC'.out, by rw [HQ.out]; exact HA'.out⟩

def lenV : Value → Nat
  | .slice _ n _ => n
  | _ => 0
theorem fReadE_pairs (zs fr : List Int) (ps : List (Int × Int)) : fReadE zs fr (pairW ps) (pairW ps).length 64 = faintE zs fr ps := by
  unfold fReadE faintE
  rw [pairW_len]
  by_cases h : 32 < ps.length
  · rw [if_pos (show (64 : Int) < ((2 * ps.length : Nat) : Int) by omega), if_pos h]
  · rw [if_neg (show ¬ (64 : Int) < ((2 * ps.length : Nat) : Int) by omega), if_neg h]
theorem fReadE_queue (zs fr q : List Int) : fReadE zs fr q q.length 32 = lastE zs fr q := by
  unfold fReadE lastE
  by_cases h : 32 < q.length
  · rw [if_pos (show (32 : Int) < (q.length : Int) by omega), if_pos h]
  · rw [if_neg (show ¬ (32 : Int) < (q.length : Int) by omega), if_neg h]
theorem faintL_small {zs fr : List Int} {ps : List (Int × Int)} {X : List Int} (h : FOk zs fr ps X) (hz : arErr zs = 0) : X.length ≤ 256 := Nat.le_trans (sub_length (h.rise.imp fun h => Int.ne_of_lt h) h.live) (lives_len (arena_len hz))

set_option maxRecDepth 8000 in
set_option maxHeartbeats 2000000 in
theorem fKeep_any : FKeepC := by
  intro A F P n c nf cf np cp zs fr ps w h hp hnp
  have HZ := Lib.hid h.arena.2.1
  have HAF := Lib.hid (fun wx (hb : Below w.heap.size w wx) => h.later hb)
  have HPF := Lib.hid (fun wx (hb : Below w.heap.size w wx) => hp.later hb)
  have HEN := Lib.hid (faintEnds_any P np cp ps w hp hnp)
  have HRD := Lib.hid (fun wx (hb : Below w.heap.size w wx) (O : Option Addr) (d : Nat) (ho : Arr .i64 wx wx.heap.size O (pairW ps).length (pairW ps)) => faintRead_any A F O n c nf cf (pairW ps).length d zs fr (pairW ps) 64 wx (h.later hb) ho (by rw [pairW_len, hp.row.1]; omega))
  have HPL := Lib.hid hp.row.1
  have hn := h.hn
  have hnc := h.hnc
  unfold FReadP at HRD
  rw [fReadE_pairs] at HRD
  unfold ListP at HEN
  clear h hp
  unfold FKeepP
  obtain ⟨E, hE⟩ : ∃ E, faintE zs fr ps = E := ⟨_, rfl⟩
  rw [hE] at HRD ⊢
  have HEE := Lib.hid hE
  clear hE
  obtain ⟨q, hq⟩ : ∃ q, (pairW ps).length = q := ⟨_, rfl⟩
  rw [hq] at HRD HEN
  clear hq
  go_enter Try.func8, Try.ntmps8
  go_wp2_with fail
  refine HEN.out.mono ?_
  rintro e w1 ⟨O, d, rfl, b1, _, hO⟩
  have HR := Lib.hid (HRD.out w1 b1 O d hO)
  have HB1 := Lib.hid b1
  clear HEN HRD b1 hO
  go_wp2_with fail
  refine HR.out.mono ?_
  rintro e w2 ⟨K, k, c2, rfl, b2, hkc, hk⟩
  have HB2 := Lib.hid (bthen HB1.out b2)
  have HK := Lib.hid hk
  clear HR b2 hk HB1
  by_cases h0 : E = 0
  · subst h0
    obtain ⟨_, hkk, hKA⟩ := HK.out.resolve_left fun h => h.1 rfl
    have HFO := Lib.hid (FOk.zero HZ.out (faintE_zero HEE.out).1 (faintE_zero HEE.out).2.2)
    have HKA := Lib.hid hKA
    clear HK hKA hkk
    go_wp2_with fail
    go_loopw [8] (fun v wr => ∃ X S m d, v = .slice S m d ∧ m ≤ d ∧ Hid (FOk zs fr ps X) ∧ Hid (Arr .i64 wr wr.heap.size S m X) ∧ Hid (Below w.heap.size w wr)) (fun v _ => 256 - lenV v)
    case atStart => exact ⟨_, K, k, c2, rfl, hkc, HFO, HKA, HB2⟩
    case round =>
      clear HFO HKA HB2
      obtain ⟨X, S, m, d, rfl, hmd, HX, HA, HB⟩ := hrel
      obtain ⟨g1, g2, g3, g4⟩ := HX.out.grow HZ.out (faintE_zero HEE.out).1 (faintE_zero HEE.out).2.2
      have hG256 := faintL_small g2 (fromE_zero g1).1
      have hX256 := faintL_small HX.out (fromE_zero g1).1
      have hXm := HA.out.1
      have h32 : np ≤ 32 := by rw [← HPL.out]; exact (faintE_zero HEE.out).2.1
      have hV32 : (keptV X ps).length ≤ 32 := Nat.le_trans keptV_len (faintE_zero HEE.out).2.1
      have HVA := Lib.hid (faintValues_any S P m d np cp X ps wr (by unfold maxLen; omega) HA.out HX.out.rise (HPF.out wr HB.out) h32)
      unfold ListP at HVA
      have HG2 := Lib.hid g2
      have HG4 : Hid (X.length = (growF zs ps X).length → X = faintL zs fr ps) := fun h => g4 h.symm
      have HG1 := Lib.hid g1
      clear g2 g4 g1
      obtain ⟨q, hq⟩ : ∃ q, (keptV X ps).length = q := ⟨_, rfl⟩
      rw [hq] at HVA hV32
      have HQ := Lib.hid hq
      clear hq
      go_wp2_with fail
      refine HVA.out.mono ?_
      rintro e w3 ⟨V, cv, rfl, b3, hcv, hV⟩
      have ba := (Below.refl _ w3).alloc (Nat.le_refl _) (.cells #[.slice S m d, .slice V q cv] 23)
      have bx := Box.new w3 23 #[.slice S m d, .slice V q cv]
      have HCC := Lib.hid (concat2 S V m d q cv w3.heap.size X (keptV X ps) _ (by omega) bx.lt ((HA.out.later b3).later ba) (hV.later ba) (bx.cell 0) (bx.cell 1))
      have HB3 := Lib.hid (bthen (bthen HB.out b3) ba)
      have HA3 := Lib.hid ((HA.out.later b3).later ba)
      clear b3 hcv hV ba bx HVA HB HA
      go_wp2_with fail
      generalize (w3.alloc (.cells #[.slice S m d, .slice V q cv] 23)) = w4 at *
      refine HCC.out.mono ?_
      rintro e w5 ⟨C, cc, rfl, hC, b5⟩
      have HB5 := Lib.hid (bthen HB3.out b5)
      have HA5 := Lib.hid (HA3.out.later b5)
      have HRE := Lib.hid (reachF_any A C n c (m + q) cc zs (X ++ keptV X ps) w5 (by unfold maxLen; omega) hnc (HAF.out w5 HB5.out).arena (by unfold maxLen; omega) hC)
      unfold ReachF at HRE
      rw [HG1.out] at HRE
      clear HCC b5 hC HB3 HA3
      go_wp2_with fail
      refine HRE.out.mono ?_
      rintro e w6 ⟨G, gm, gc, rfl, b6, hgc, _, hg⟩
      obtain ⟨_, hgm, hGA⟩ := hg.resolve_left fun h => h.1 rfl
      have HB6 := Lib.hid (bthen HB5.out b6)
      have HA6 := Lib.hid (HA5.out.later b6)
      have HGA : Hid (Arr .i64 w6 w6.heap.size G gm (growF zs ps X)) := hGA
      have hgm' : gm = (growF zs ps X).length := hgm
      clear hg hgm hGA b6 HRE HB5 HA5
      by_cases he : gm = m
      · have HXX := Lib.hid (HG4.out (by omega))
        clear HG4 hgm' g3
        subst he
        go_wp2
        go_ret2
        exact ⟨S, gm, d, rfl, HB6.out, hmd, by rw [faintO_ok HEE.out, ← HXX.out]; exact HA6.out⟩
      · have hne : ¬ ((gm : Int) = (m : Int)) := by omega
        have hlt : m < gm ∧ gm ≤ 256 := by omega
        clear HG4 hgm' g3 he
        go_wp2
        go_roundw
        case rel => exact ⟨_, G, gm, gc, rfl, hgc, HG2, HGA, HB6⟩
        case measure => simp [lenV]; omega
  · have hb : (E != 0) = true := by simpa using h0
    have HE := Lib.hid h0
    clear h0
    go_wp2
    go_ret2
    exact ⟨none, 0, 0, rfl, HB2.out, Nat.le_refl _, by rw [faintO_bad (by rw [HEE.out]; exact HE.out)]; exact Arr.zero⟩

set_option maxRecDepth 8000 in
set_option maxHeartbeats 2000000 in
theorem fClear_any : FClearC := by
  intro A F P n c nf cf np cp zs fr ps w h hp hnp
  have HKE := Lib.hid (fKeep_any A F P n c nf cf np cp zs fr ps w h hp hnp)
  have HPF := Lib.hid (fun wx (hb : Below w.heap.size w wx) => hp.later hb)
  have HPL := Lib.hid hp.row.1
  have HZ := Lib.hid h.arena.2.1
  unfold FKeepP at HKE
  clear h hp
  unfold FClearP
  obtain ⟨E, hE⟩ : ∃ E, faintE zs fr ps = E := ⟨_, rfl⟩
  rw [hE] at HKE ⊢
  have HEE := Lib.hid hE
  clear hE
  go_enter Try.func9, Try.ntmps9
  go_wp2_with fail
  refine HKE.out.mono ?_
  rintro e w1 ⟨K, m, d, rfl, b1, hmd, hK⟩
  have HB1 := Lib.hid b1
  have HPW := Lib.hid (HPF.out w1 b1)
  have HK := Lib.hid hK
  clear b1 hK HKE
  by_cases h0 : E = 0
  · subst h0
    have hKK := HK.out
    rw [faintO_ok HEE.out] at hKK
    have h32 : np ≤ 32 := by rw [← HPL.out]; exact (faintE_zero HEE.out).2.1
    have hl := faintL_len (fr := fr) (ps := ps) (arena_len (fromE_zero (faintE_zero HEE.out).1).1)
    have HAL := Lib.hid (faintAlive_any K P m d np cp (faintL zs fr ps) ps w1 (by rw [← hKK.1]; unfold maxLen; omega) hKK faintL_rise HPW.out h32)
    unfold AliveP at HAL
    have HCL : Hid (keptP (faintL zs fr ps) ps = clearO zs fr ps) := by rw [clearO_ok HEE.out]; exact rfl
    rw [HCL.out] at HAL
    clear hKK hl h32 HK HCL
    obtain ⟨q, hq⟩ : ∃ q, (clearO zs fr ps).length = q := ⟨_, rfl⟩
    rw [hq] at HAL
    clear hq
    go_wp2_with fail
    refine HAL.out.mono ?_
    rintro e w2 ⟨R, cr, rfl, b2, hcr, hR⟩
    have HB2 := Lib.hid (bthen HB1.out b2)
    have HR := Lib.hid hR
    clear b2 hR HAL
    go_wp2
    go_ret2
    exact ⟨R, q, cr, rfl, HB2.out, hcr, HR.out⟩
  · have hb : (E != 0) = true := by simpa using h0
    have HE := Lib.hid h0
    clear h0
    go_wp2
    go_ret2
    exact ⟨none, 0, 0, rfl, HB1.out, Nat.le_refl _, by rw [clearO_bad (by rw [HEE.out]; exact HE.out)]; exact ArrG.zero⟩

/-- What is reached from what is reached and more. -/
theorem reach_told {zs fr T : List Int} (hz : ∀ z ∈ zs, (Lit.int .u64 z).wf = true) (h : fromE zs fr = 0) (hT : ∀ x ∈ T, x ∈ livesI zs) : fromE zs (reachL zs fr ++ T) = 0 ∧ reachL zs (reachL zs fr ++ T) = reachL zs (fr ++ T) := by
  have h1 : fromE zs (reachL zs fr ++ T) = 0 := fromE_ok (fromE_zero h).1 fun x hx => by
    rcases List.mem_append.1 hx with hx | hx
    · exact reachL_lives x hx
    · exact hT x hx
  have h2 : fromE zs (fr ++ T) = 0 := fromE_ok (fromE_zero h).1 fun x hx => by
    rcases List.mem_append.1 hx with hx | hx
    · exact (fromE_zero h).2 x hx
    · exact hT x hx
  refine ⟨h1, rise_ext reachL_rise reachL_rise fun x => ?_⟩
  rw [reachL_mem hz h1, reachL_mem hz h2]
  constructor
  · refine reach_least (fun x hx => ?_) fun x hx y hy h0 => .step hx hy h0
    rcases List.mem_append.1 hx with hx | hx
    · exact reach_more (fun x hx => List.mem_append_left _ hx) ((reachL_mem hz h).1 hx)
    · exact .base (List.mem_append_right _ hx)
  · refine reach_least (fun x hx => ?_) fun x hx y hy h0 => .step hx hy h0
    rcases List.mem_append.1 hx with hx | hx
    · exact .base (List.mem_append_left _ ((reachL_mem hz h).2 (.base hx)))
    · exact .base (List.mem_append_right _ hx)

set_option maxRecDepth 8000 in
set_option maxHeartbeats 2000000 in
theorem fLast_any : FLastC := by
  intro A F Q n c nf cf nq cq zs fr q w h hq hnq hqc
  have HZ := Lib.hid h.arena.2.1
  have HAF := Lib.hid (fun wx (hb : Below w.heap.size w wx) => h.later hb)
  have HQA := Lib.hid hq
  have HRD := Lib.hid (faintRead_any A F Q n c nf cf nq cq zs fr q 32 w h hq hnq)
  have hn := h.hn
  have hnc := h.hnc
  unfold FReadP at HRD
  rw [show fReadE zs fr q nq 32 = lastE zs fr q by rw [← hq.1]; exact fReadE_queue zs fr q] at HRD
  clear h hq
  unfold FLastP
  obtain ⟨E, hE⟩ : ∃ E, lastE zs fr q = E := ⟨_, rfl⟩
  rw [hE] at HRD ⊢
  have HEE := Lib.hid hE
  clear hE
  go_enter Try.func15, Try.ntmps15
  go_wp2_with fail
  refine HRD.out.mono ?_
  rintro e w1 ⟨K, k, c1, rfl, b1, hkc, hk⟩
  have HB1 := Lib.hid b1
  have HK := Lib.hid hk
  clear HRD b1 hk
  by_cases h0 : E = 0
  · subst h0
    obtain ⟨_, hkk, hKA⟩ := HK.out.resolve_left fun h => h.1 rfl
    obtain ⟨e1, e2, e3⟩ := lastE_zero HEE.out
    have hl := reachL_len (fr := fr) (arena_len (fromE_zero e1).1)
    have HKB := Lib.hid (fun wx (hb : Below w1.heap.size w1 wx) => (hKA.below hb (Nat.le_refl _)).more hb.size)
    have HH := Lib.hid (fun x wx (hb : Below w1.heap.size w1 wx) => faintHas_any K k c1 w1.heap.size (reachL zs fr) x wx (by unfold maxLen; omega) (hKA.below hb (Nat.le_refl _)) reachL_rise)
    have hq32 : nq ≤ 32 := by rw [← HQA.out.1]; exact e2
    have HLT : Hid (fromE zs (reachL zs fr ++ toldL zs fr q) = 0 ∧ reachL zs (reachL zs fr ++ toldL zs fr q) = reachL zs (fr ++ toldL zs fr q)) := reach_told HZ.out e1 fun x hx => (fromE_zero e3).2 x (toldL_mem.1 hx).1
    have hk256 : k ≤ 256 := by omega
    have HTA : Hid (toldTo (reachL zs fr) q q.length = toldL zs fr q) := toldTo_all
    clear HK hKA e1 e2 e3 hl hkk
    go_wp2_with fail
    go_loopw [11, 27] (fun v i wr => ∃ j : Nat, j ≤ nq ∧ i = .int .i64 j ∧ Hid (Own .i64 3 wr w1.heap.size v (toldTo (reachL zs fr) q j)) ∧ Hid (Below w1.heap.size w1 wr)) (fun _ i _ => nq - (intOf i).toNat)
    case atStart => exact ⟨0, Nat.zero_le _, rfl, Own.nil, Below.refl _ _⟩
    case round =>
      obtain ⟨j, hj, rfl, HO, HB⟩ := hrel
      by_cases hlt : j < nq
      · obtain ⟨b, off, rfl, hbl, hcs⟩ := HQA.out.2.2 (by omega)
        have hc := ((bthen HB1.out HB.out).cell (p := ⟨b, off + j, none⟩) hbl).trans (hcs j hlt)
        have HX := Lib.hid (HH.out (nth q j) wr HB.out)
        have hjl : j < q.length := by have := HQA.out.1; omega
        have hwx := HQA.out.2.1 _ (nth_mem hjl)
        clear hcs
        by_cases hin : nth q j ∈ reachL zs fr
        · rw [show decide (nth q j ∈ reachL zs fr) = true by simpa using hin] at HX
          rw [← toldTo_skip hjl hin] at HO
          clear hin hjl hwx
          generalize nth q j = X at *
          go_wp2_with fail
          refine HX.out.mono ?_
          rintro e w3 ⟨rfl, rfl⟩
          go_wp2
          go_roundw
          case rel => exact ⟨j + 1, by omega, by go_num, HO, HB⟩
          case measure => simp [intOf]; omega
        · rw [show decide (nth q j ∈ reachL zs fr) = false by simpa using hin] at HX
          have hll : (toldTo (reachL zs fr) q j).length ≤ q.length := toldTo_len
          obtain ⟨v', w6, hrun, hO', hG⟩ := HO.out.pushGB (P := Try.prog) (t := 23) (ty := 23) Try.underlying23 intI_info (x := nth q j) hwx (by have := HQA.out.1; omega) HB.out.size
          rw [← toldTo_more hjl hin] at hO'
          have HRN := Lib.hid hrun
          have HO' := Lib.hid hO'
          have HB' := Lib.hid (HB.out.trans (hG.below HB.out.size HO.out.row))
          clear hin hjl hrun hO' hG hll HO hwx
          generalize nth q j = X at *
          go_wp2_with fail
          refine HX.out.mono ?_
          rintro e w3 ⟨rfl, rfl⟩
          go_wp2_with (at_builtin; refine wpList_append_run rfl (.tmp 35) (.tmp 37) 23 rfl rfl rfl HRN.out ?_)
          go_roundw
          case rel => exact ⟨j + 1, by omega, by go_num, HO', HB'⟩
          case measure => simp [intOf]; omega
      · obtain rfl : nq = j := by omega
        rw [show toldTo (reachL zs fr) q nq = toldL zs fr q by rw [← HTA.out, HQA.out.1]] at HO
        obtain ⟨A', c', hv, hc', hA'⟩ := HO.out.arr
        have hl32 : (toldL zs fr q).length ≤ 32 := Nat.le_trans toldL_len (by rw [HQA.out.1]; exact hq32)
        subst hv
        obtain ⟨t, ht⟩ : ∃ t, (toldL zs fr q).length = t := ⟨_, rfl⟩
        rw [ht] at hc' hA' hl32 ⊢
        have ba := (Below.refl _ wr).alloc (Nat.le_refl _) (.cells #[.slice K k c1, .slice A' t c'] 23)
        have bx := Box.new wr 23 #[.slice K k c1, .slice A' t c']
        have HCC := Lib.hid (concat2 K A' k c1 t c' wr.heap.size (reachL zs fr) (toldL zs fr q) _ (by omega) bx.lt ((HKB.out wr HB.out).later ba) (hA'.later ba) (bx.cell 0) (bx.cell 1))
        have HB3 := Lib.hid (bthen (bthen HB1.out HB.out) ba)
        have HA3 := Lib.hid (hA'.later ba)
        have HC' := Lib.hid hc'
        clear ba bx hA' hc' HO HB ht
        go_wp2_with fail
        generalize (wr.alloc (.cells #[.slice K k c1, .slice A' t c'] 23)) = w4 at *
        refine HCC.out.mono ?_
        rintro e w5 ⟨C, cc, rfl, hC, b5⟩
        have HB5 := Lib.hid (bthen HB3.out b5)
        have HA5 := Lib.hid (HA3.out.later b5)
        have HRE := Lib.hid (reachF_any A C n c (k + t) cc zs (reachL zs fr ++ toldL zs fr q) w5 (by unfold maxLen; omega) hnc (HAF.out w5 HB5.out).arena (by unfold maxLen; omega) hC)
        unfold ReachF at HRE
        rw [HLT.out.1, HLT.out.2] at HRE
        clear HCC b5 hC HB3 HA3
        go_wp2_with fail
        refine HRE.out.mono ?_
        rintro e w6 ⟨G, gm, gc, rfl, b6, hgc, _, hg⟩
        obtain ⟨_, hgm, hGA⟩ := hg.resolve_left fun h => h.1 rfl
        have HB6 := Lib.hid (bthen HB5.out b6)
        have HA6 := Lib.hid (HA5.out.later b6)
        have HGA := Lib.hid hGA
        clear hg hgm hGA b6 HRE HB5 HA5
        go_wp2
        go_ret3
        exact ⟨A', t, c', G, gm, gc, rfl, HB6.out, HC'.out, hgc, by rw [lastT_ok HEE.out]; exact HA6.out, by rw [lastA_ok HEE.out]; exact HGA.out⟩
  · have hb : (E != 0) = true := by simpa using h0
    have HE := Lib.hid h0
    clear h0
    go_wp2
    go_ret3
    exact ⟨none, 0, 0, none, 0, 0, rfl, HB1.out, Nat.le_refl _, Nat.le_refl _, by rw [lastT_bad (by rw [HEE.out]; exact HE.out)]; exact Arr.zero, by rw [lastA_bad (by rw [HEE.out]; exact HE.out)]; exact Arr.zero⟩
end Go.Proofs.Ytdglnbcliemafaa
