/-
  Contracts of package tint's eachRef, drain, pass and markAll.
-/
import Derived.Test.YtcdlgohhjnpbmaaTintK
namespace Go.Proofs.Ytcdlgohhjnpbmaa
open Go.RowKit

/-- A number for each world: the least one that a rule takes. -/
theorem least_of (p : Nat → Prop) : (∃ m, p m) → ∃ m, p m ∧ ∀ k, p k → m ≤ k := by
  rintro ⟨m, hm⟩
  induction m using Nat.strongRecOn with
  | ind m ih =>
    by_cases h : ∃ k, k < m ∧ p k
    · obtain ⟨k, hk, hp⟩ := h
      exact ih k hk hp
    · exact ⟨m, hm, fun k hp => Nat.le_of_not_lt fun hk => h ⟨k, hk, hp⟩⟩
theorem least_fn {α : Type} (J : Nat → α → Prop) : ∃ μ : α → Nat, ∀ w, (∃ m, J m w) → J (μ w) w ∧ ∀ k, J k w → μ w ≤ k := by
  have h : ∀ w : α, ∃ m : Nat, (∃ m, J m w) → J m w ∧ ∀ k, J k w → m ≤ k := fun w => by
    by_cases hw : ∃ m, J m w
    · obtain ⟨m, h⟩ := least_of (fun m => J m w) hw
      exact ⟨m, fun _ => h⟩
    · exact ⟨0, fun h => absurd h hw⟩
  exact ⟨fun w => Classical.choose (h w), fun w => Classical.choose_spec (h w)⟩

/-- All is right with a marker and its room. -/
structure MG (L : List Int) (room : Nat) (s : MS) : Prop where
  ok : MOk L s
  fits : s.stk.length ≤ room
  deep : s.deep ≤ room
theorem MG.mk1 {L : List Int} {room : Nat} {s : MS} (h : MG L room s) {x : Int} (hx : x < 0 ∨ x ∈ L) : MG L room (mk1 room s x) := ⟨(mk1_ok h.ok hx).1, mk1_room h.fits x, mk1_deep h.deep x⟩
theorem MG.mkL {L : List Int} {room : Nat} : ∀ {l : List Int} {s : MS}, MG L room s → (∀ x ∈ l, x < 0 ∨ x ∈ L) → MG L room (mkL room s l)
  | [], _, h, _ => h
  | x :: l, _, h, hl => MG.mkL (l := l) (h.mk1 (hl x (by simp))) fun y hy => hl y (by simp [hy])
theorem MG.popped {L : List Int} {room : Nat} {s : MS} (h : MG L room s) : MG L room { s with stk := s.stk.dropLast } := ⟨popped_ok h.ok, by have := h.fits; simp only [List.length_dropLast]; omega, h.deep⟩
theorem MG.drain {nx : Int → List Int} {L : List Int} {room : Nat} {s : MS} (hl : L.length ≤ 256) (hc : Closed nx L) (h : MG L room s) : MG L room (drain nx room s) :=
  ⟨(drain_rest hl hc h.ok).1, by rw [(drain_rest (room := room) hl hc h.ok).2]; exact Nat.zero_le _, drainF_deep _ h.deep⟩

/-- What the references of an object name. -/
theorem refs_named {zs : List Int} (hz : ∀ z ∈ zs, (Lit.int .u64 z).wf = true) (h : arErr zs = 0) {t : Nat} (ht : (t : Int) ∈ livesI zs) {k : Nat} (hk : k < (refWords zs t).length) :
    nth (refWords zs t) k = 0 ∨ (1 ≤ nth (refWords zs t) k ∧ nth (refWords zs t) k ≤ 256 ∧ nth (refWords zs t) k - 1 ∈ livesI zs) := by
  have hmem : nth (refWords zs t) k ∈ refWords zs t := nth_mem hk
  have h0 := refs_wf hz _ hmem
  have hc := lives_closed hz h (t : Int) ht (nm (nth (refWords zs t) k)) (by
    unfold nxOf named
    rw [Int.toNat_natCast]
    exact List.mem_map.2 ⟨_, hmem, rfl⟩)
  generalize nth (refWords zs t) k = X at *
  have h256 := arena_len h
  unfold nm at hc
  split at hc
  · rcases hc with hc | hc
    · omega
    · have := lives_lt hc; omega
  · rcases hc with hc | hc
    · exact .inl (by omega)
    · have := lives_lt hc
      exact .inr ⟨by omega, by omega, hc⟩
theorem named_take {zs : List Int} {t k : Nat} (hk : k < (refWords zs t).length) : (named zs t).take (k + 1) = (named zs t).take k ++ [nm (nth (refWords zs t) k)] := by
  unfold named
  rw [← List.map_take, ← List.map_take, List.take_succ_eq_append_getElem hk, List.map_append, nth_get _ _ hk]
  rfl
theorem named_sub {zs : List Int} (hz : ∀ z ∈ zs, (Lit.int .u64 z).wf = true) (h : arErr zs = 0) {t : Nat} (ht : (t : Int) ∈ livesI zs) : ∀ x ∈ named zs t, x < 0 ∨ x ∈ livesI zs := fun x hx =>
  lives_closed hz h (t : Int) ht x (by unfold nxOf; rw [Int.toNat_natCast]; exact hx)

set_option maxRecDepth 8000 in
set_option maxHeartbeats 2000000 in
theorem eachRef_any {zs : List Int} {B b room n c g lc ps : Nat} {A L : Option Addr} {s : MS} (w : World) (hH : Hp zs B A n c g L w) (hM : Mk zs B b room A n c g L lc s ps w) (hk : MG (livesI zs) room s) (hr : room ≤ 256) {t : Nat} (ht : (t : Int) ∈ livesI zs) :
    Calls Try.prog 99 #[.agg #[.slice A n c, .map (some g), .slice L (livesI zs).length lc], .int .i64 t, .func (.func 87) #[.pointer (some ⟨b, 0, none⟩)] #[]] w
      fun e w' => e = .returned (.tuple #[]) ∧ Mk zs B b room A n c g L lc (mkL room s (named zs t)) ps w' ∧ Below B w w' := by
  obtain ⟨hl, h256⟩ := hH.len
  have hBw : B ≤ w.heap.size := by
    obtain ⟨_, _, _, _, _, _, _, h⟩ := hM
    exact Nat.le_trans h.bb (Nat.le_of_lt h.box.lt)
  obtain ⟨t', e', ht1, ht2, ht3, ht4, ht5, ht6, ht7, ht8, ht9⟩ := live_facts hH.wf ht
  obtain rfl : t' = t := by omega
  clear e'
  have hst := (begins_mem ht8).2.2
  obtain ⟨R, Bd, hR, hBd, f1, f2, f3, f4, f5, f6, f7, f8⟩ := spot_facts hst hH.wf (by omega)
  have hrl := refWords_len hst
  have hrw : refWords zs t' = (zs.drop (t' + 1)).take R := by unfold refWords; rw [hR]; rfl
  rw [hR, Int.toNat_natCast] at hrl
  have hb0 := (Below.refl _ w).alloc (Nat.le_refl _) (.cells #[.slice A n c, .map (some g), .slice L (livesI zs).length lc] 86)
  have hH0 := hH.below (hb0.mono hBw)
  have hlk := fun q => (hH0.heads.drewN q).look headT (x := (t' : Int)) (wf_i64.2 (by omega))
  rw [getD_hd _ ht, Int.toNat_natCast, hR] at hlk
  obtain ⟨D, hD, hD2⟩ := run_from (P := Try.prog) Try.underlying22 u64_size A n c (t' + 1) ((t' : Int) + 1) (by omega) (by omega) hH.cap
  obtain ⟨E, hE, hE2⟩ := run_upto (P := Try.prog) Try.underlying22 u64_size D (n - (t' + 1)) (c - (t' + 1)) R R rfl (by have := hH.cap; omega)
  have hA := hH.arena.cut2 (p := t' + 1) (q := R) (by omega) hD2 hE2
  rw [← hrw] at hA
  have HA := Lib.hid hA
  have HH := Lib.hid hH
  have HM := Lib.hid (hM.next hb0)
  have HB0 := Lib.hid (hb0.mono hBw)
  have HK := Lib.hid hk
  have HT := Lib.hid ht
  have HRL := Lib.hid hrl
  have HNS := Lib.hid (named_sub hH.wf hH.ok ht)
  have HWF : Hid (∀ k, k < R → nth (refWords zs t') k = 0 ∨ (1 ≤ nth (refWords zs t') k ∧ nth (refWords zs t') k ≤ 256 ∧ nth (refWords zs t') k - 1 ∈ livesI zs)) := fun k hk => refs_named hH.wf hH.ok ht (by rw [hrl]; exact hk)
  have g1 : IntKind.i64.wrap ((t' : Int) + 1) = t' + 1 := IntWalk.i64_in _ (by omega)
  have hR2 : R ≤ 256 := by omega
  have BX := Lib.hid (Box.new w 86 #[.slice A n c, .map (some g), .slice L (livesI zs).length lc])
  clear hA hrw hrl hD2 hE2 hst hH hM hk ht hb0 hH0 ht2 ht3 ht4 ht5 ht6 ht7 ht8 ht9 f1 f2 f3 f4 f5 f6 f7 f8 hR hBd
  generalize vB (nth zs t') = Bw at *
  generalize vT (nth zs t') = T at *
  generalize vF (nth zs t') = F at *
  obtain ⟨ln, hln⟩ : ∃ q, (livesI zs).length = q := ⟨_, rfl⟩
  rw [hln] at BX HB0 HM hlk ⊢
  clear hln
  go_enter Try.func99, Try.ntmps99
  go_wp2_with fail
  generalize (w.alloc (.cells #[.slice A n c, .map (some g), .slice L ln lc] 86)) = W at *
  have c0 : W.cell? ⟨w.heap.size, 0, none⟩ = some (.slice A n c) := BX.out.cell 0
  have c1 : W.cell? ⟨w.heap.size, 1, none⟩ = some (.map (some g)) := BX.out.cell 1
  have hfd : ∀ w : World, (Instr.field 96 (.agg #[.int .i64 (R : Int), .int .i64 Bw, .int .i64 T, .bool F]) 0).run Try.prog w = .ok (.int .i64 (R : Int)) w := fun _ => by kernel_rfl
  go_quiet (fail)
  have HM2 := Lib.hid (HM.out.next (w' := W.drewN nq) (below_drewN (Below.refl _ _) nq))
  have HB2 : Hid (Below B w (W.drewN nq)) := below_drewN HB0.out nq
  clear c0 c1 hlk hD hE g1 hfd HM HB0 BX
  generalize W.drewN nq = W2 at *
  go_wp2_with fail
  go_loopw [20] (fun i wr => ∃ k : Nat, k ≤ R ∧ i = .int .i64 k ∧ Hid (Mk zs B b room A n c g L lc (mkL room s ((named zs t').take k)) ps wr) ∧ Hid (Below B w wr)) (fun i _ => R - (intOf i).toNat)
  case atStart => exact ⟨0, Nat.zero_le _, rfl, HM2.out, HB2.out⟩
  case round =>
    obtain ⟨k, hk, rfl, HMk, HBk⟩ := hrel
    clear HM2 HB2
    by_cases hlt : k < R
    · have hAk := HA.out.below HBk.out (Nat.le_refl _)
      obtain ⟨b', off, rfl, _, hcs⟩ := hAk.2.2 (by omega)
      have hc := hcs k hlt
      have HTK := Lib.hid (named_take (zs := zs) (t := t') (k := k) (by rw [HRL.out]; exact hlt))
      have hX := HWF.out k hlt
      have HGk : Hid (MG (livesI zs) room (mkL room s ((named zs t').take k))) := HK.out.mkL fun x hx => HNS.out x (List.mem_of_mem_take hx)
      clear hcs hAk
      generalize nth (refWords zs t') k = X at *
      rcases hX with rfl | ⟨x1, x2, x3⟩
      · have HN : Hid (Mk zs B b room A n c g L lc (mkL room s ((named zs t').take (k + 1))) ps wr) := by
          show Mk _ _ _ _ _ _ _ _ _ _ _ _ _
          rw [HTK.out, mkL_snoc, show nm 0 = -1 from rfl]
          unfold mk1
          rw [if_pos (.inl (by omega))]
          exact HMk.out
        have c0 : ((0 : Int) != 0) = false := rfl
        clear HMk HTK
        go_wp2
        go_roundw
        case rel => exact ⟨k + 1, by omega, by go_num, HN.out, HBk.out⟩
        case measure => simp [intOf]; omega
      · have HC := Lib.hid (mark_any wr (HH.out.below HBk.out) HMk.out HGk.out.ok HGk.out.fits hr HGk.out.deep x3)
        have HN : Hid (mk1 room (mkL room s ((named zs t').take k)) (X - 1) = mkL room s ((named zs t').take (k + 1))) := by
          show _ = _
          rw [HTK.out, mkL_snoc]
          unfold nm
          rw [if_neg (by omega)]
        rw [HN.out] at HC
        have c0 : (X != 0) = true := by simp; omega
        have e1 : IntKind.i64.wrap X = X := IntWalk.i64_in _ (by omega)
        have e2 : IntKind.i64.wrap (X - 1) = X - 1 := IntWalk.i64_in _ (by omega)
        clear HMk HTK HGk x3
        go_wp2_with fail
        refine HC.out.mono ?_
        rintro e w3 ⟨rfl, hm3, hb3⟩
        have HM3 := Lib.hid hm3
        have HB3 := Lib.hid (HBk.out.trans hb3)
        clear hm3 hb3 HC HBk
        go_wp2
        go_roundw
        case rel => exact ⟨k + 1, by omega, by go_num, HM3.out, HB3.out⟩
        case measure => simp [intOf]; omega
    · obtain rfl : k = R := by omega
      have HL : Hid ((named zs t').take k = named zs t') := by
        show _ = _
        rw [List.take_of_length_le (by unfold named; rw [List.length_map, HRL.out]; exact Nat.le_refl _)]
      rw [HL.out] at HMk
      clear HL
      go_wp2
      refine bodyPost_end (v := .tuple #[]) (by simp [results, Try.results99, go_sem]) rfl ⟨rfl, HMk.out, HBk.out⟩

theorem int_size : (Try.prog.info? 3).map (·.size) = some 1 := by kernel_rfl
theorem Own.upto {k : IntKind} {e : TypeId} {w : World} {base g n cap m : Nat} {xs : List Int} (h : Own k e w base (.slice (some ⟨g, 0, none⟩) n cap) xs) (hm : m ≤ xs.length) : Own k e w base (.slice (some ⟨g, 0, none⟩) m cap) (xs.take m) := by
  obtain ⟨⟨hl, h2⟩, hw⟩ := h
  rcases h2 with ⟨h, _⟩ | ⟨g', cap', cur, hv, hg, hh, hc, hcm, hs, ht⟩
  · injection h with h; cases h
  · injection hv with e1 e2 e3
    injection e1 with e1
    injection e1 with e1
    subst e1 e3
    have hml : (xs.take m).length = m := by rw [List.length_take]; omega
    refine ⟨⟨by simp, .inr ⟨g, cap, cur, by rw [hml], hg, hh, by rw [hml]; omega, hcm, hs, ?_⟩⟩, fun x hx => hw x (List.mem_of_mem_take hx)⟩
    rw [hml, List.map_take, ← ht, List.take_take]
    congr 1
    omega
theorem MG.visit {nx : Int → List Int} {L : List Int} {room : Nat} {s : MS} (hl : L.length ≤ 256) (hc : Closed nx L) (h : MG L room s) {x : Int} (hx : x ∈ L) : MG L room (visit nx room s x) := by
  unfold Go.Proofs.Ytcdlgohhjnpbmaa.visit
  split
  · exact (h.mkL (hc x hx)).drain hl hc
  · exact h
theorem MG.sweep {nx : Int → List Int} {L : List Int} {room : Nat} (hl : L.length ≤ 256) (hc : Closed nx L) : ∀ {l : List Int} {s : MS}, MG L room s → (∀ x ∈ l, x ∈ L) → MG L room (sweep nx room s l)
  | [], _, h, _ => h
  | x :: l, _, h, hs => MG.sweep hl hc (l := l) (h.visit hl hc (hs x (by simp))) fun y hy => hs y (by simp [hy])

/-- What holds while the stack is emptied; 'm' is what is left to do. -/
def DrainJ (zs : List Int) (B b room : Nat) (A : Option Addr) (n c g : Nat) (L : Option Addr) (lc : Nat) (s : MS) (ps : Nat) (w : World) (m : Nat) (wr : World) : Prop :=
  ∃ s', Mk zs B b room A n c g L lc s' ps wr ∧ MG (livesI zs) room s' ∧ drain (nxOf zs) room s' = drain (nxOf zs) room s ∧ Below B w wr ∧ mu (livesI zs) s' = m

set_option maxRecDepth 8000 in
set_option maxHeartbeats 2000000 in
theorem drain_any {zs : List Int} {B b room n c g lc ps : Nat} {A L : Option Addr} {s : MS} (w : World) (hH : Hp zs B A n c g L w) (hM : Mk zs B b room A n c g L lc s ps w) (hk : MG (livesI zs) room s) (hr : room ≤ 256) :
    Calls Try.prog 88 #[.pointer (some ⟨b, 0, none⟩)] w fun e w' => e = .returned (.tuple #[]) ∧ Mk zs B b room A n c g L lc (drain (nxOf zs) room s) ps w' ∧ Below B w w' := by
  obtain ⟨hl, h256⟩ := hH.len
  obtain ⟨μ, hμ⟩ := least_fn (DrainJ zs B b room A n c g L lc s ps w)
  have HMU := Lib.hid hμ
  have HH := Lib.hid hH
  have HCL := Lib.hid hH.closed
  have HLL := Lib.hid (lives_len (zs := zs) (by omega))
  have HJ0 : Hid (DrainJ zs B b room A n c g L lc s ps w (mu (livesI zs) s) w) := ⟨s, hM, hk, rfl, Below.refl _ _, rfl⟩
  clear hμ hH hM hk
  go_enter Try.func88, Try.ntmps88
  go_wp2_with fail
  go_loopw [9] (fun _ wr => Hid (∃ m, DrainJ zs B b room A n c g L lc s ps w m wr)) (fun _ wr => μ wr)
  case atStart => exact ⟨_, HJ0.out⟩
  case round =>
    clear HJ0
    obtain ⟨s', hM, hG, hD, hB, hmu⟩ := (HMU.out wr hrel.out).1
    obtain ⟨Am, nm, cm, ms, S, sn, sc, h⟩ := hM
    have hsn := h.size
    have d4 : wr.cell? ⟨b, 4, none⟩ = some (.slice S sn sc) := h.box.cell 4
    by_cases h0 : s'.stk = []
    · have hs0 : sn = 0 := by rw [hsn, h0]; rfl
      subst hs0
      have HE : Hid (Mk zs B b room A n c g L lc (drain (nxOf zs) room s) ps wr) := by
        show Mk _ _ _ _ _ _ _ _ _ _ _ _ _
        rw [← hD, drain_done h0]
        exact ⟨_, _, _, _, _, _, _, h⟩
      have HB := Lib.hid hB
      clear h hG hD hB hmu h0 hsn hrel
      go_wp2
      refine bodyPost_end (v := .tuple #[]) (by simp [results, Try.results88, go_sem]) rfl ⟨rfl, HE.out, HB.out⟩
    · have hpos : 0 < s'.stk.length := List.length_pos_iff.2 h0
      obtain ⟨k, hkk⟩ : ∃ k, sn = k + 1 := ⟨sn - 1, by omega⟩
      obtain ⟨g', cap, hv, hgb, hglt, hcells, _⟩ := h.own.form hpos
      injection hv with e1 e2 e3
      subst e1 e3
      clear e2
      have hmem : nth s'.stk k ∈ s'.stk := nth_mem (by omega)
      have hlast : s'.stk.getLastD 0 = nth s'.stk k := by
        rw [List.getLastD_eq_getLast?, List.getLast?_eq_getElem?, show s'.stk.length - 1 = k by omega]
        rfl
      have hdrop : s'.stk.take k = s'.stk.dropLast := by rw [List.dropLast_eq_take]; congr 1; omega
      have hlive := hG.ok.sub _ (hG.ok.stk _ hmem)
      have hck := (hcells k (by omega)).1
      obtain ⟨t, ht, _⟩ := live_facts HH.out.wf hlive
      rw [ht] at hck hlive hlast
      have hown := h.own.upto (m := k) (by omega)
      rw [hdrop] at hown
      have hsc : k ≤ sc := by
        obtain ⟨_, _, hv, hle, _⟩ := h.own.arr
        injection hv with _ e2 e3
        omega
      have hM2 := h.stack (w4 := wr) (S' := some ⟨g', 0, none⟩) (sn' := k) (sc' := sc) ⟨rfl, rfl, rfl, Nat.le_refl _, fun _ _ _ => rfl, .inl rfl⟩ hown
      have hb2 := below_set hB h.bb 4 (.slice (some ⟨g', 0, none⟩) k sc)
      have HEC := Lib.hid (eachRef_any _ (HH.out.below hb2) ⟨_, _, _, _, _, _, _, hM2⟩ hG.popped hr hlive)
      have s4 := h.box.soft 4
      have c0 : (wr.setCell ⟨b, 4, none⟩ (.slice (some ⟨g', 0, none⟩) k sc)).cell? ⟨b, 0, none⟩ = some (.slice A n c) := hM2.box.cell 0
      have c1 : (wr.setCell ⟨b, 4, none⟩ (.slice (some ⟨g', 0, none⟩) k sc)).cell? ⟨b, 1, none⟩ = some (.map (some g)) := hM2.box.cell 1
      have c2 : (wr.setCell ⟨b, 4, none⟩ (.slice (some ⟨g', 0, none⟩) k sc)).cell? ⟨b, 2, none⟩ = some (.slice L (livesI zs).length lc) := hM2.box.cell 2
      obtain ⟨D, hrD, hD2⟩ := run_upto (P := Try.prog) Try.underlying54 int_size (some ⟨g', 0, none⟩) sn sc k (k : Int) rfl hsc
      rw [hD2 g' 0 rfl] at hrD
      clear D hD2
      have HP : Hid (pop1 (nxOf zs) room s' = mkL room { s' with stk := s'.stk.dropLast } (named zs t)) := by
        show _ = _
        unfold pop1 nxOf
        rw [hlast, Int.toNat_natCast]
      rw [← HP.out] at HEC
      have HJN : Hid (∀ w', Mk zs B b room A n c g L lc (pop1 (nxOf zs) room s') ps w' → Below B (wr.setCell ⟨b, 4, none⟩ (.slice (some ⟨g', 0, none⟩) k sc)) w' → ∃ m, DrainJ zs B b room A n c g L lc s ps w m w' ∧ m < μ wr) := fun w' hm hb => by
        obtain ⟨p1, p2⟩ := pop1_ok (room := room) HCL.out hG.ok h0
        refine ⟨_, ⟨pop1 (nxOf zs) room s', hm, ?_, ?_, hb2.trans hb, rfl⟩, by omega⟩
        · rw [HP.out]
          exact hG.popped.mkL (named_sub HH.out.wf HH.out.ok hlive)
        · rw [← drain_step HLL.out HCL.out hG.ok h0]; exact hD
      have q1 : (sn : Int) - 1 = k := by omega
      have q2 : IntKind.i64.wrap (k : Int) = k := IntWalk.i64_in _ (by have := hG.fits; omega)
      have q3 : k < sn := by omega
      have q4 : ¬ sn = 0 := by omega
      have q5 : (0 : Int) < (sn : Int) := by omega
      clear h hG hD hB hmu hsn hkk hpos hcells hmem hlast hdrop hlive hown hsc hM2 hb2 h0 ht HP
      obtain ⟨ln, hln⟩ : ∃ q, (livesI zs).length = q := ⟨_, rfl⟩
      rw [hln] at c2 HEC
      clear hln
      go_wp2_with fail
      refine HEC.out.mono ?_
      rintro e w3 ⟨rfl, hm3, hb3⟩
      obtain ⟨m, hJ, hlt⟩ := HJN.out w3 hm3 hb3
      have HJ := Lib.hid hJ
      have HLT := Lib.hid hlt
      clear hm3 hb3 hJ hlt HJN HEC c0 c1 c2 d4 hck hrD
      go_wp2
      go_roundw
      case rel => exact ⟨m, HJ.out⟩
      case measure => exact Nat.lt_of_le_of_lt ((HMU.out w3 ⟨m, HJ.out⟩).2 m HJ.out) HLT.out

theorem sweep_snoc {nx : Int → List Int} {room : Nat} {s : MS} {x : Int} {l : List Int} : sweep nx room s (l ++ [x]) = visit nx room (sweep nx room s l) x := by unfold sweep; rw [List.foldl_append]; rfl
theorem take_nth {l : List Int} {k : Nat} (h : k < l.length) : l.take (k + 1) = l.take k ++ [nth l k] := by rw [List.take_succ_eq_append_getElem h, nth_get _ _ h]

set_option maxRecDepth 8000 in
set_option maxHeartbeats 2000000 in
theorem pass_any {zs : List Int} {B b room n c g lc ps : Nat} {A L : Option Addr} {s : MS} (w : World) (hH : Hp zs B A n c g L w) (hM : Mk zs B b room A n c g L lc s ps w) (hk : MG (livesI zs) room s) (hr : room ≤ 256) (hps : ps ≤ 1000) :
    Calls Try.prog 89 #[.pointer (some ⟨b, 0, none⟩)] w fun e w' => e = .returned (.tuple #[]) ∧ Mk zs B b room A n c g L lc (sweep (nxOf zs) room { s with over := false } (livesI zs)) (ps + 1) w' ∧ Below B w w' := by
  obtain ⟨hl, h256⟩ := hH.len
  obtain ⟨Am, nm, cm, ms, S, sn, sc, h⟩ := hM
  have d6 : w.cell? ⟨b, 6, none⟩ = some (.bool s.over) := h.box.cell 6
  have s6 := h.box.soft 6
  have h1 := h.cell (j := 6) (d := .bool false) (s' := { s with over := false }) (ps' := ps) rfl rfl rfl
  have d7 : (w.setCell ⟨b, 6, none⟩ (.bool false)).cell? ⟨b, 7, none⟩ = some (.int .i64 ps) := h1.box.cell 7
  have s7 := h1.box.soft 7
  have h2 := h1.cell (j := 7) (d := .int .i64 ((ps : Int) + 1)) (s' := { s with over := false }) (ps' := ps + 1) rfl rfl rfl
  have d2 : ((w.setCell ⟨b, 6, none⟩ (.bool false)).setCell ⟨b, 7, none⟩ (.int .i64 ((ps : Int) + 1))).cell? ⟨b, 2, none⟩ = some (.slice L (livesI zs).length lc) := h2.box.cell 2
  have HM2 : Hid (Mk zs B b room A n c g L lc { s with over := false } (ps + 1) ((w.setCell ⟨b, 6, none⟩ (.bool false)).setCell ⟨b, 7, none⟩ (.int .i64 ((ps : Int) + 1)))) := ⟨_, _, _, _, _, _, _, h2⟩
  have HB2 := Lib.hid (below_set (below_set (Below.refl B w) h.bb 6 (.bool false)) h.bb 7 (.int .i64 ((ps : Int) + 1)))
  have HH := Lib.hid hH
  have HLL := Lib.hid (lives_len (zs := zs) (by omega))
  have HG0 : Hid (MG (livesI zs) room { s with over := false }) := ⟨⟨hk.ok.nodup, hk.ok.sub, hk.ok.stk, hk.ok.snod⟩, hk.fits, hk.deep⟩
  clear h h1 h2 hH hk
  obtain ⟨ln, hln⟩ : ∃ q, (livesI zs).length = q := ⟨_, rfl⟩
  rw [hln] at d2
  have hln2 : ln ≤ 256 := by rw [← hln]; exact HLL.out
  have HLN := Lib.hid hln
  clear hln
  go_enter Try.func89, Try.ntmps89
  go_wp2_with fail
  clear d6 s6 d7 s7 d2
  generalize ((w.setCell ⟨b, 6, none⟩ (.bool false)).setCell ⟨b, 7, none⟩ (.int .i64 ((ps : Int) + 1))) = W2 at *
  generalize hs0 : ({ s with over := false } : MS) = s0 at *
  have HS0 := Lib.hid hs0
  clear hs0
  go_loopw [20] (fun i wr => ∃ k : Nat, k ≤ ln ∧ i = .int .i64 k ∧ Hid (Mk zs B b room A n c g L lc (sweep (nxOf zs) room s0 ((livesI zs).take k)) (ps + 1) wr) ∧ Hid (Below B w wr)) (fun i _ => ln - (intOf i).toNat)
  case atStart => exact ⟨0, Nat.zero_le _, rfl, HM2.out, HB2.out⟩
  case round =>
    obtain ⟨k, hk, rfl, HMk, HBk⟩ := hrel
    clear HM2 HB2
    by_cases hlt : k < ln
    · have hkl : k < (livesI zs).length := by rw [HLN.out]; exact hlt
      have hmem : nth (livesI zs) k ∈ livesI zs := nth_mem hkl
      have HTK := Lib.hid (take_nth hkl)
      have HG : Hid (MG (livesI zs) room (sweep (nxOf zs) room s0 ((livesI zs).take k))) := HG0.out.sweep HLL.out HH.out.closed fun x hx => List.mem_of_mem_take hx
      obtain ⟨b', off, rfl, _, hcs⟩ := (HH.out.below HBk.out).lives.2.2 (by omega)
      have hc := hcs k hkl
      obtain ⟨t, ht, _⟩ := live_facts HH.out.wf hmem
      rw [ht] at hc hmem HTK
      have HMM := Lib.hid (marked_any wr (HH.out.below HBk.out) HMk.out HG.out.ok.sub hmem)
      have HME := Lib.hid hmem
      clear hcs ht hmem hkl
      obtain ⟨s1, hs1⟩ : ∃ s1, sweep (nxOf zs) room s0 ((livesI zs).take k) = s1 := ⟨_, rfl⟩
      rw [hs1] at HMk HG HMM
      have HS : Hid (sweep (nxOf zs) room s0 ((livesI zs).take (k + 1)) = visit (nxOf zs) room s1 (t : Int)) := by
        show _ = _
        rw [HTK.out, sweep_snoc, hs1]
      clear hs1 HTK
      by_cases hin : (t : Int) ∈ s1.on
      · rw [show decide ((t : Int) ∈ s1.on) = true by simpa using hin] at HMM
        have HV : Hid (visit (nxOf zs) room s1 (t : Int) = drain (nxOf zs) room (mkL room s1 (named zs t))) := by
          show _ = _
          unfold visit
          rw [if_pos hin]
          unfold nxOf
          rw [Int.toNat_natCast]
        clear hin
        go_wp2_with fail
        refine HMM.out.mono ?_
        rintro e w3 ⟨rfl, q, rfl⟩
        have HM3 := Lib.hid (HMk.out.next (w' := wr.drewN q) (below_drewN (Below.refl _ _) q))
        have HB3 : Hid (Below B w (wr.drewN q)) := below_drewN HBk.out q
        clear HMk HBk HMM hc
        generalize wr.drewN q = W3 at *
        have HE := Lib.hid (eachRef_any W3 (HH.out.below HB3.out) HM3.out HG.out hr HME.out)
        obtain ⟨_, _, _, _, _, _, _, h3⟩ := HM3.out
        have c0 : W3.cell? ⟨b, 0, none⟩ = some (.slice A n c) := h3.box.cell 0
        have c1 : W3.cell? ⟨b, 1, none⟩ = some (.map (some g)) := h3.box.cell 1
        have c2 : W3.cell? ⟨b, 2, none⟩ = some (.slice (some ⟨b', off, none⟩) (livesI zs).length lc) := h3.box.cell 2
        rw [HLN.out] at c2 HE
        clear h3 HM3
        go_wp2_with fail
        refine HE.out.mono ?_
        rintro e w4 ⟨rfl, hm4, hb4⟩
        have HD := Lib.hid (drain_any w4 (HH.out.below (HB3.out.trans hb4)) hm4 (HG.out.mkL (named_sub HH.out.wf HH.out.ok HME.out)) hr)
        have HB4 := Lib.hid (HB3.out.trans hb4)
        clear hm4 hb4 HE HB3 c0 c1 c2
        go_wp2_with fail
        refine HD.out.mono ?_
        rintro e w5 ⟨rfl, hm5, hb5⟩
        have HM5 : Hid (Mk zs B b room A n c g (some ⟨b', off, none⟩) lc (sweep (nxOf zs) room s0 ((livesI zs).take (k + 1))) (ps + 1) w5) := by
          show Mk _ _ _ _ _ _ _ _ _ _ _ _ _
          rw [HS.out, HV.out]; exact hm5
        have HB5 := Lib.hid (HB4.out.trans hb5)
        clear hm5 hb5 HD HB4
        go_wp2
        go_roundw
        case rel => exact ⟨k + 1, by omega, by go_num, HM5.out, HB5.out⟩
        case measure => simp [intOf]; omega
      · rw [show decide ((t : Int) ∈ s1.on) = false by simpa using hin] at HMM
        have HV : Hid (visit (nxOf zs) room s1 (t : Int) = s1) := by
          show _ = _
          unfold visit
          rw [if_neg hin]
        clear hin
        go_wp2_with fail
        refine HMM.out.mono ?_
        rintro e w3 ⟨rfl, q, rfl⟩
        have HM5 : Hid (Mk zs B b room A n c g (some ⟨b', off, none⟩) lc (sweep (nxOf zs) room s0 ((livesI zs).take (k + 1))) (ps + 1) (wr.drewN q)) := by
          show Mk _ _ _ _ _ _ _ _ _ _ _ _ _
          rw [HS.out, HV.out]; exact HMk.out.next (below_drewN (Below.refl _ _) q)
        have HB5 : Hid (Below B w (wr.drewN q)) := below_drewN HBk.out q
        clear HMk HBk HMM hc
        go_wp2
        go_roundw
        case rel => exact ⟨k + 1, by omega, by go_num, HM5.out, HB5.out⟩
        case measure => simp [intOf]; omega
    · obtain rfl : k = ln := by omega
      have HL : Hid ((livesI zs).take k = livesI zs) := by
        show _ = _
        rw [List.take_of_length_le (by rw [HLN.out]; exact Nat.le_refl _)]
      rw [HL.out] at HMk
      clear HL
      go_wp2
      refine bodyPost_end (v := .tuple #[]) (by simp [results, Try.results89, go_sem]) rfl ⟨rfl, by rw [HS0.out]; exact HMk.out, HBk.out⟩

/-- What holds between the passes; 'm' is what is left to do. -/
def MarkJ (zs : List Int) (B b room : Nat) (A : Option Addr) (n c g : Nat) (L : Option Addr) (lc : Nat) (fr : List Int) (w : World) (m : Nat) (wr : World) : Prop :=
  ∃ s' p, Mk zs B b room A n c g L lc s' p wr ∧ MG (livesI zs) room s' ∧ Between (nxOf zs) (livesI zs) fr s' p ∧ passF (nxOf zs) room (livesI zs) 300 s' p = marking (nxOf zs) room (livesI zs) fr ∧ Below B w wr ∧ (if s'.over = true then (livesI zs).length - s'.on.length + 1 else 0) = m
/-- What markAll answers. -/
def MarkAllP (zs : List Int) (room : Nat) (A : Option Addr) (n c g : Nat) (L : Option Addr) (lc : Nat) (fr : List Int) (w : World) (e : Ending) (w' : World) : Prop :=
  ∃ b, e = .returned (.pointer (some ⟨b, 0, none⟩)) ∧ Mk zs w.heap.size b room A n c g L lc (marking (nxOf zs) room (livesI zs) fr).1 (marking (nxOf zs) room (livesI zs) fr).2 w' ∧ Below w.heap.size w w'
theorem begun_MG {zs fr : List Int} {room : Nat} (hf : ∀ x ∈ fr, x ∈ livesI zs) : MG (livesI zs) room (mkL room ⟨[], [], false, 0⟩ fr) :=
  MG.mkL ⟨⟨List.nodup_nil, by simp, by simp, List.nodup_nil⟩, Nat.zero_le _, Nat.zero_le _⟩ fun x hx => .inr (hf x hx)

set_option maxRecDepth 8000 in
set_option maxHeartbeats 2000000 in
theorem markAll_any {zs fr : List Int} {room n c g lc nf cf : Nat} {A L F : Option Addr} (w : World) (hH : Hp zs w.heap.size A n c g L w) (hnf : nf ≤ maxLen) (hfr : Arr .i64 w w.heap.size F nf fr) (hf : ∀ x ∈ fr, x ∈ livesI zs) (hr : room ≤ 256) :
    Calls Try.prog 60 #[.agg #[.slice A n c, .map (some g), .slice L (livesI zs).length lc], .slice F nf cf, .int .i64 room] w (MarkAllP zs room A n c g L lc fr w) := by
  unfold maxLen at hnf
  obtain ⟨hl, h256⟩ := hH.len
  have hb0 := (Below.refl _ w).alloc (Nat.le_refl _) (.cells #[.slice A n c, .map (some g), .slice L (livesI zs).length lc] 86)
  have HB0 := Lib.hid hb0
  have BX := Lib.hid (Box.new w 86 #[.slice A n c, .map (some g), .slice L (livesI zs).length lc])
  have HN := Lib.hid (fun w => spotNew_any n w h256)
  have HH := Lib.hid hH
  have HFR := Lib.hid hfr
  have HF := Lib.hid hf
  have HCL := Lib.hid hH.closed
  have HLL := Lib.hid (lives_len (zs := zs) (by omega))
  have HZ := Lib.hid hl
  clear hb0 hH hfr hf hl
  obtain ⟨ln, hln⟩ : ∃ q, (livesI zs).length = q := ⟨_, rfl⟩
  rw [hln] at BX HB0 ⊢
  have HLN := Lib.hid hln
  clear hln
  go_enter Try.func60, Try.ntmps60
  have c0 : (w.alloc (.cells #[.slice A n c, .map (some g), .slice L ln lc] 86)).cell? ⟨w.heap.size, 0, none⟩ = some (.slice A n c) := BX.out.cell 0
  go_wp2_with fail
  refine (HN.out _).mono ?_
  rintro e w1 ⟨Am, cm, rfl, ha1, hi1, b1⟩
  have BX1 := BX.out.below b1 BX.out.lt
  have HB1 := Lib.hid (HB0.out.trans (b1.mono HB0.out.size))
  have e0 : w1.cell? ⟨w.heap.size, 0, none⟩ = some (.slice A n c) := BX1.cell 0
  have e1 : w1.cell? ⟨w.heap.size, 1, none⟩ = some (.map (some g)) := BX1.cell 1
  have e2 : w1.cell? ⟨w.heap.size, 2, none⟩ = some (.slice L ln lc) := BX1.cell 2
  have HA1 := Lib.hid ha1
  have HI1 := Lib.hid (hi1.less (lo' := w.heap.size) HB0.out.size)
  clear ha1 hi1 b1 c0 BX BX1 HB0 HN
  obtain ⟨nm, hnm⟩ : ∃ q, (n + 63) / 64 = q := ⟨_, rfl⟩
  rw [hnm] at HA1 HI1 ⊢
  have HNM := Lib.hid hnm
  clear hnm
  go_wp2_with fail
  have hM0 : Mk zs w.heap.size w1.heap.size room A n c g L lc ⟨[], [], false, 0⟩ 0 (w1.alloc (.cells #[.slice A n c, .map (some g), .slice L ln lc, .slice Am nm cm, .slice none 0 0, .int .i64 room, .bool false, .int .i64 0, .int .i64 0] 92)) := by
    refine ⟨Am, nm, cm, List.replicate nm 0, none, 0, 0, ?_, ?_, ?_, ?_, Own.nil, by simp [Value.ownBlock], ?_, HB1.out.size, HI1.out⟩
    · unfold mkC; rw [HLN.out]; exact Box.new _ _ _
    · exact (HA1.out.below ((Below.refl _ w1).alloc (Nat.le_refl _) _) (Nat.le_refl _)).more (by simp)
    · intro b' off hn hA e
      obtain ⟨b2, off2, e3, hb, _⟩ := HA1.out.2.2 hn
      rw [hA] at e3
      injection e3 with e3
      injection e3 with e3
      injection e with e
      omega
    · intro b' off _ _; simp [Value.ownBlock]
    · rw [← HNM.out, ← HZ.out]; exact OnMarks.none (by have := HZ.out; omega)
  have HM0 := Lib.hid hM0
  have HB2 := Lib.hid (HB1.out.alloc HB1.out.size (.cells #[.slice A n c, .map (some g), .slice L ln lc, .slice Am nm cm, .slice none 0 0, .int .i64 room, .bool false, .int .i64 0, .int .i64 0] 92))
  clear hM0 HA1 HB1 e0 e1 e2
  generalize (w1.alloc (.cells #[.slice A n c, .map (some g), .slice L ln lc, .slice Am nm cm, .slice none 0 0, .int .i64 room, .bool false, .int .i64 0, .int .i64 0] 92)) = W2 at *
  obtain ⟨b, hb⟩ : ∃ b, w1.heap.size = b := ⟨_, rfl⟩
  rw [hb] at HM0 ⊢
  clear hb
  go_loopw [26] (fun i wr => ∃ k : Nat, k ≤ nf ∧ i = .int .i64 k ∧ Hid (Mk zs w.heap.size b room A n c g L lc (mkL room ⟨[], [], false, 0⟩ (fr.take k)) 0 wr) ∧ Hid (Below w.heap.size w wr)) (fun i _ => nf - (intOf i).toNat)
  case atStart => exact ⟨0, Nat.zero_le _, rfl, HM0.out, HB2.out⟩
  case round =>
    obtain ⟨k, hk, rfl, HMk, HBk⟩ := hrel
    clear HM0 HB2
    by_cases hlt : k < nf
    · have hfl := HFR.out.1
      have hmem := HF.out (nth fr k) (nth_mem (by omega))
      have HTK := Lib.hid (take_nth (l := fr) (k := k) (by omega))
      obtain ⟨b', off, rfl, _, hcs⟩ := (HFR.out.below HBk.out (Nat.le_refl _)).2.2 (by omega)
      have hc := hcs k hlt
      have HG : Hid (MG (livesI zs) room (mkL room ⟨[], [], false, 0⟩ (fr.take k))) := begun_MG fun x hx => HF.out x (List.mem_of_mem_take hx)
      have HC := Lib.hid (mark_any wr (HH.out.below HBk.out) HMk.out HG.out.ok HG.out.fits hr HG.out.deep hmem)
      rw [← mkL_snoc, ← HTK.out] at HC
      clear hcs hmem hfl HG HTK HMk
      generalize nth fr k = X at *
      go_wp2_with fail
      refine HC.out.mono ?_
      rintro e w3 ⟨rfl, hm3, hb3⟩
      have HM3 := Lib.hid hm3
      have HB3 := Lib.hid (HBk.out.trans hb3)
      clear hm3 hb3 HC HBk
      go_wp2
      go_roundw
      case rel => exact ⟨k + 1, by omega, by go_num, HM3.out, HB3.out⟩
      case measure => simp [intOf]; omega
    · obtain rfl : k = nf := by omega
      have HL : Hid (fr.take k = fr) := by
        show _ = _
        rw [List.take_of_length_le (by rw [HFR.out.1]; exact Nat.le_refl _)]
      rw [HL.out] at HMk
      have HD := Lib.hid (drain_any wr (HH.out.below HBk.out) HMk.out (begun_MG HF.out) hr)
      clear HL HMk
      go_wp2_with fail
      refine HD.out.mono ?_
      rintro e w3 ⟨rfl, hm3, hb3⟩
      obtain ⟨μ, hμ⟩ := least_fn (MarkJ zs w.heap.size b room A n c g L lc fr w)
      have HMU := Lib.hid hμ
      have HJ0 : Hid (∃ m, MarkJ zs w.heap.size b room A n c g L lc fr w m w3) := ⟨_, begun (nxOf zs) room fr, 0, hm3, (begun_MG HF.out).drain HLL.out HCL.out, begun_between HLL.out HCL.out HF.out lives_pos, rfl, HBk.out.trans hb3, rfl⟩
      clear hμ hm3 hb3 HD HBk
      go_wp2_with fail
      go_loopw [39] (fun _ wr => Hid (∃ m, MarkJ zs w.heap.size b room A n c g L lc fr w m wr)) (fun _ wr => μ wr)
      case atStart => exact HJ0
      case round =>
        clear HJ0
        obtain ⟨s', p, hM, hG, hB, hP, hBw, hmu⟩ := (HMU.out wr hrel.out).1
        have HMp := Lib.hid hM
        obtain ⟨_, _, _, _, _, _, _, h⟩ := hM
        have d6 : wr.cell? ⟨b, 6, none⟩ = some (.bool s'.over) := h.box.cell 6
        clear h
        cases ho : s'.over
        · rw [ho] at d6
          rw [passF_off ho] at hP
          have HE : Hid (Mk zs w.heap.size b room A n c g L lc (marking (nxOf zs) room (livesI zs) fr).1 (marking (nxOf zs) room (livesI zs) fr).2 wr) := by
            show Mk _ _ _ _ _ _ _ _ _ _ _ _ _
            rw [← hP]; exact HMp.out
          have HBw := Lib.hid hBw
          clear hG hB hP hBw hmu ho HMp hrel
          go_wp2
          go_ret
          exact ⟨b, rfl, HE.out, HBw.out⟩
        · rw [ho] at d6
          have hp := Nat.le_trans hB.some hG.ok.len
          have HC := Lib.hid (pass_any wr (HH.out.below hBw) HMp.out hG hr (by have := HLL.out; omega))
          have HJN : Hid (∀ w', Mk zs w.heap.size b room A n c g L lc (sweep (nxOf zs) room { s' with over := false } (livesI zs)) (p + 1) w' → Below w.heap.size wr w' → ∃ m, MarkJ zs w.heap.size b room A n c g L lc fr w m w' ∧ m < μ wr) := fun w' hm hb => by
            obtain ⟨p1, p2⟩ := sweep_between (room := room) HLL.out HCL.out hB ho
            refine ⟨_, ⟨_, p + 1, hm, ?_, p1, ?_, hBw.trans hb, rfl⟩, ?_⟩
            · exact MG.sweep HLL.out HCL.out ⟨⟨hG.ok.nodup, hG.ok.sub, hG.ok.stk, hG.ok.snod⟩, hG.fits, hG.deep⟩ fun x hx => hx
            · rw [← pass_step HLL.out HCL.out hB ho]; exact hP
            · rw [if_pos ho] at hmu
              split
              · rename_i h1
                have h2 := p2 h1
                have h3 := p1.rest.1.len
                omega
              · omega
          clear hG hB hP hBw hmu ho HMp hrel hp
          go_wp2_with fail
          refine HC.out.mono ?_
          rintro e w4 ⟨rfl, hm4, hb4⟩
          obtain ⟨m, hJ, hlt⟩ := HJN.out w4 hm4 hb4
          have HJ := Lib.hid hJ
          have HLT := Lib.hid hlt
          clear hm4 hb4 hJ hlt HJN HC d6
          go_wp2
          go_roundw
          case rel => exact ⟨m, HJ.out⟩
          case measure => exact Nat.lt_of_le_of_lt ((HMU.out w4 ⟨m, HJ.out⟩).2 m HJ.out) HLT.out
end Go.Proofs.Ytcdlgohhjnpbmaa
