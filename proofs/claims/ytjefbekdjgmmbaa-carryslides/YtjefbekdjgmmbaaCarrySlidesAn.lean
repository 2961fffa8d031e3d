/-
  Parts of the proof of CarrySlides: TintP, CarryM, SameM, StepD, PlanM, SlideM, TintCW, SlideN, RefT, RefForm.
-/
import Derived.Deep.RegionHeld3
import Derived.StillTailTactics
import Derived.Test.YtjefbekdjgmmbaaCarrySlidesAk
import Derived.Test.YtjefbekdjgmmbaaCarrySlidesAl
import Derived.Test.YtjefbekdjgmmbaaCarrySlidesAm
namespace Go.Proofs.Ytjefbekdjgmmbaa
open Go.RowKit
/-- The marker's cells. -/
def mkC (A : Option Addr) (n c g : Nat) (L : Option Addr) (ln lc : Nat) (Am : Option Addr) (nm cm : Nat) (S : Option Addr) (sn sc room : Nat) (s : MS) (ps : Nat) : Array Value :=
  #[.slice A n c, .map (some g), .slice L ln lc, .slice Am nm cm, .slice S sn sc, .int .i64 room, .bool s.over, .int .i64 ps, .int .i64 s.deep]
/-- The marker at block 'b' is in the state 's'; all that it writes is block 'B' or a later one. -/
structure MkI (zs : List Int) (B b room : Nat) (A : Option Addr) (n c g : Nat) (L : Option Addr) (lc : Nat) (s : MS) (ps : Nat) (Am : Option Addr) (nm cm : Nat) (ms : List Int) (S : Option Addr) (sn sc : Nat) (w : World) : Prop where
  box : Box w b 113 (mkC A n c g L (livesI zs).length lc Am nm cm S sn sc room s ps)
  arr : Arr .u64 w w.heap.size Am nm ms
  offB : Off (some b) Am nm
  offS : Off (Value.slice S sn sc).ownBlock Am nm
  own : Own .i64 3 w B (.slice S sn sc) s.stk
  sb : (Value.slice S sn sc).ownBlock ≠ some b
  on : OnMarks zs ms s.on
  bb : B ≤ b
  hi : High B Am nm
/-- .. whatever its slices are. -/
def Mk (zs : List Int) (B b room : Nat) (A : Option Addr) (n c g : Nat) (L : Option Addr) (lc : Nat) (s : MS) (ps : Nat) (w : World) : Prop := ∃ Am nm cm ms S sn sc, MkI zs B b room A n c g L lc s ps Am nm cm ms S sn sc w
/-- The heap beneath it, all below block 'B'. -/
structure Hp (zs : List Int) (B : Nat) (A : Option Addr) (n c g : Nat) (L : Option Addr) (w : World) : Prop where
  arena : Arr .u64 w B A n zs
  heads : MapV Try.prog .i64 3 w g 300 (hdOf zs)
  low : g < B
  lives : Arr .i64 w B L (livesI zs).length (livesI zs)
  ok : arErr zs = 0
  cap : n ≤ c
section
variable {zs : List Int} {B b room n c g lc ps nm cm sn sc : Nat} {A L Am S : Option Addr} {s : MS} {ms : List Int} {w w' : World}
theorem Hp.below (h : Hp zs B A n c g L w) (hb : Below B w w') : Hp zs B A n c g L w' :=
  ⟨h.arena.below hb (Nat.le_refl _), h.heads.below hb h.low, h.low, h.lives.below hb (Nat.le_refl _), h.ok, h.cap⟩
theorem Hp.len (h : Hp zs B A n c g L w) : zs.length = n ∧ n ≤ 256 := by
  have := arena_len h.ok
  have := h.arena.1
  omega
theorem Hp.wf (h : Hp zs B A n c g L w) : ∀ z ∈ zs, (Lit.int .u64 z).wf = true := h.arena.2.1
theorem Hp.closed (h : Hp zs B A n c g L w) : Closed (nxOf zs) (livesI zs) := lives_closed h.wf h.ok
theorem MkI.next (h : MkI zs B b room A n c g L lc s ps Am nm cm ms S sn sc w) (hb : Below w.heap.size w w') : MkI zs B b room A n c g L lc s ps Am nm cm ms S sn sc w' :=
  ⟨h.box.below hb h.box.lt, (h.arr.below hb (Nat.le_refl _)).more hb.size, h.offB, h.offS, h.own.below hb, h.sb, h.on, h.bb, h.hi⟩
theorem Mk.next (h : Mk zs B b room A n c g L lc s ps w) (hb : Below w.heap.size w w') : Mk zs B b room A n c g L lc s ps w' := by
  obtain ⟨Am, nm, cm, ms, S, sn, sc, h⟩ := h
  exact ⟨Am, nm, cm, ms, S, sn, sc, h.next hb⟩
theorem MkI.size (h : MkI zs B b room A n c g L lc s ps Am nm cm ms S sn sc w) : sn = s.stk.length := by
  obtain ⟨_, _, e, _, _⟩ := h.own.arr
  injection e
end
theorem quiet_sameT {P : Program} {f : FuncId} {args : Array Value} {w : World} {n : Nat} {v : Value} (h : Calls P f args (w.drewN n) fun e w' => e = .returned v ∧ w.drewN n = w') :
    Calls P f args (w.drewN n) fun e w'' => e = .returned v ∧ ∃ m, w'' = w.drewN m := h.mono fun _ _ ⟨he, hm⟩ => ⟨he, n, hm.symm⟩
set_option maxHeartbeats 1000000 in
theorem marked_any {zs : List Int} {B b room n c g lc ps : Nat} {A L : Option Addr} {s : MS} (w : World) (hH : Hp zs B A n c g L w) (hM : Mk zs B b room A n c g L lc s ps w) (hon : ∀ x ∈ s.on, x ∈ livesI zs) {x : Int} (hx : x ∈ livesI zs) :
    Calls Try.prog 78 #[.pointer (some ⟨b, 0, none⟩), .int .i64 x] w fun e w' => e = .returned (.bool (decide (x ∈ s.on))) ∧ ∃ q, w.drewN q = w' := by
  obtain ⟨Am, nm, cm, ms, S, sn, sc, h⟩ := hM
  obtain ⟨hl, h256⟩ := hH.len
  have hlt := lives_lt hx
  have hE : spotE ms (n : Int) x 1 = 0 := spotE_ok (by rw [← hl]; exact h.on.form) (validB_true (by omega))
  have HC : Hid (∀ m, Calls Try.prog 104 #[.slice Am nm cm, .int .i64 n, .int .i64 x] (w.drewN m) fun e w' => e = .returned (.tuple #[.bool (decide (x ∈ s.on)), .int .i64 0]) ∧ w.drewN m = w') := fun m => by
    rw [← h.on.has hon hx]
    exact hasOk_any Am nm cm _ (n : Int) x ms _ (h.arr.drewN m) hE
  have d0 : w.cell? ⟨b, 0, none⟩ = some (.slice A n c) := h.box.cell 0
  have d3 : w.cell? ⟨b, 3, none⟩ = some (.slice Am nm cm) := h.box.cell 3
  clear h hH hlt hE hon hx
  generalize decide (x ∈ s.on) = V at *
  go_enter Try.func78, Try.ntmps78
  go_wp2_with fail
  go_quiet ((go_at_call 104; exact quiet_sameT (HC.out _)))
  go_wp2
  go_ret
  exact ⟨rfl, _, rfl⟩
theorem getD_hd {zs : List Int} {x : Int} (z : Value) (h : x ∈ livesI zs) : (hdOf zs x).getD z = .agg #[.int .i64 (vR (nth zs x.toNat)), .int .i64 (vB (nth zs x.toNat)), .int .i64 (vT (nth zs x.toNat)), .bool (vF (nth zs x.toNat))] := by
  rw [hdOf_in h]; rfl
theorem live_facts {zs : List Int} (hz : ∀ z ∈ zs, (Lit.int .u64 z).wf = true) {x : Int} (h : x ∈ livesI zs) : ∃ s : Nat, x = s ∧ s < zs.length ∧ 0 ≤ vR (nth zs s) ∧ 0 ≤ vB (nth zs s) ∧ vR (nth zs s) + vB (nth zs s) ≤ 255 ∧ hFault (vR (nth zs s)) (vB (nth zs s)) (vT (nth zs s)) (vF (nth zs s)) = 0 ∧ (longN zs s : Int) = 1 + vR (nth zs s) + vB (nth zs s) ∧ s + longN zs s ≤ zs.length ∧ s ∈ begins zs 0 ∧ vF (nth zs s) = false := by
  obtain ⟨s, hs, hf, rfl⟩ := lives_mem.1 h
  obtain ⟨_, h1, h2⟩ := begins_mem hs
  obtain ⟨h3, h4⟩ := stepOk_iff.1 h2
  have h5 := hz (nth zs s) (nth_mem h1)
  rw [wf_u64] at h5
  obtain ⟨f1, f2, f3, f4, f5, f6, f7⟩ := head_fields h5.1 h3
  exact ⟨s, rfl, h1, f1, f2, f5, f7, sLong_int h5.1 h3, h4, hs, hf⟩
theorem Own.setOff {k : IntKind} {e : TypeId} {w : World} {base g : Nat} {v : Value} {xs : List Int} (h : Own k e w base v xs) (hv : v.ownBlock ≠ some g) (j : Nat) (d : Value) : Own k e (w.setCell ⟨g, j, none⟩ d) base v xs := by
  obtain ⟨⟨hl, h2⟩, hw⟩ := h
  refine ⟨⟨hl, h2.imp id ?_⟩, hw⟩
  rintro ⟨g', cap, cur, rfl, hg, hh, r⟩
  refine ⟨g', cap, cur, rfl, hg, ?_, r⟩
  rw [heap_setOther w (fun e => hv (by simp [Value.ownBlock, e]))]; exact hh
theorem Arr.setOff {k : IntKind} {w : World} {B n g : Nat} {A : Option Addr} {zs : List Int} (h : Arr k w B A n zs) (ho : Off (some g) A n) (j : Nat) (d : Value) : Arr k (w.setCell ⟨g, j, none⟩ d) B A n zs :=
  ⟨h.1, h.2.1, fun hn => by
    obtain ⟨b, off, e, hb, hc⟩ := h.2.2 hn
    exact ⟨b, off, e, hb, fun i hi => (cell_setOther w (fun e' => ho b off hn e (by rw [e'])) j d _).trans (hc i hi)⟩⟩
theorem size_setCell (w : World) (p : Addr) (d : Value) : (w.setCell p d).heap.size = w.heap.size := by simp [World.setCell]
section
variable {zs : List Int} {B b room n c g lc ps nm cm sn sc : Nat} {A L Am S : Option Addr} {s : MS} {ms : List Int} {w w4 : World}
/-- New marks. -/
theorem MkI.marks (h : MkI zs B b room A n c g L lc s ps Am nm cm ms S sn sc w) {A3 : Option Addr} {n3 c3 lo : Nat} {ms3 : List Int} (ha : Arr .u64 w w.heap.size A3 n3 ms3) (hi : High lo A3 n3) (hb : b < lo) (hs : ∀ r, (Value.slice S sn sc).ownBlock = some r → r < lo) {on' : List Int} (ho : OnMarks zs ms3 on') :
    MkI zs B b room A n c g L lc { s with on := on' } ps A3 n3 c3 ms3 S sn sc (w.setCell ⟨b, 3, none⟩ (.slice A3 n3 c3)) := by
  have o1 : Off (some b) A3 n3 := Off.of_high hi fun b' e => by injection e with e; omega
  refine ⟨?_, ?_, o1, Off.of_high hi hs, h.own.setOff h.sb _ _, h.sb, ho, h.bb, hi.less (Nat.le_trans h.bb (Nat.le_of_lt hb))⟩
  · have := h.box.set 3 (.slice A3 n3 c3)
    exact this
  · rw [size_setCell]; exact ha.setOff o1 _ _
/-- Another cell of its own. -/
theorem MkI.cell (h : MkI zs B b room A n c g L lc s ps Am nm cm ms S sn sc w) {j : Nat} {d : Value} {s' : MS} {ps' : Nat} (hb : (mkC A n c g L (livesI zs).length lc Am nm cm S sn sc room s ps).setIfInBounds j d = mkC A n c g L (livesI zs).length lc Am nm cm S sn sc room s' ps') (hon : s'.on = s.on) (hstk : s'.stk = s.stk) :
    MkI zs B b room A n c g L lc s' ps' Am nm cm ms S sn sc (w.setCell ⟨b, j, none⟩ d) := by
  refine ⟨?_, ?_, h.offB, h.offS, by rw [hstk]; exact h.own.setOff h.sb _ _, h.sb, by rw [hon]; exact h.on, h.bb, h.hi⟩
  · rw [← hb]; exact h.box.set j d
  · rw [size_setCell]; exact h.arr.setOff h.offB _ _
/-- Another stack. -/
theorem MkI.stack (h : MkI zs B b room A n c g L lc s ps Am nm cm ms S sn sc w) {S' : Option Addr} {sn' sc' : Nat} {l : List Int} (hg : Grew w (.slice S sn sc) w4 (.slice S' sn' sc')) (ho : Own .i64 3 w4 B (.slice S' sn' sc') l) :
    MkI zs B b room A n c g L lc { s with stk := l } ps Am nm cm ms S' sn' sc' (w4.setCell ⟨b, 4, none⟩ (.slice S' sn' sc')) := by
  obtain ⟨h1, h2⟩ := h.box.grew hg h.sb
  obtain ⟨h3, h4⟩ := h.arr.grew hg h.offS (Nat.le_refl _)
  refine ⟨?_, ?_, h.offB, h4, ho.setOff h2 _ _, h2, h.on, h.bb, h.hi⟩
  · have := h1.set 4 (.slice S' sn' sc')
    exact this
  · rw [size_setCell]; exact (h3.more hg.size).setOff h.offB _ _
end
/-- The stack is not too high. -/
theorem mk1_room {room : Nat} {s : MS} (h : s.stk.length ≤ room) (x : Int) : (mk1 room s x).stk.length ≤ room := by
  rcases mk1_cases room s x with ⟨_, e⟩ | ⟨_, _, _, e⟩ | ⟨_, _, hr, e⟩ <;> rw [e]
  · exact h
  · exact h
  · show (s.stk ++ [x]).length ≤ room
    rw [List.length_append, List.length_singleton]; omega
set_option maxRecDepth 8000 in
set_option maxHeartbeats 4000000 in
theorem mark_any {zs : List Int} {B b room n c g lc ps : Nat} {A L : Option Addr} {s : MS} (w : World) (hH : Hp zs B A n c g L w) (hM : Mk zs B b room A n c g L lc s ps w) (hk : MOk (livesI zs) s) (hkr : s.stk.length ≤ room) (hr : room ≤ 256) (hdp : s.deep ≤ room) {x : Int} (hx : x ∈ livesI zs) :
    Calls Try.prog 89 #[.pointer (some ⟨b, 0, none⟩), .int .i64 x] w fun e w' => e = .returned (.tuple #[]) ∧ Mk zs B b room A n c g L lc (mk1 room s x) ps w' ∧ Below B w w' := by
  have HM1 := Lib.hid (marked_any w hH hM hk.sub hx)
  by_cases hin : x ∈ s.on
  · rw [show decide (x ∈ s.on) = true by simpa using hin] at HM1
    have HE : Hid (mk1 room s x = s) := by
      show _ = _
      unfold mk1; rw [if_pos (.inr hin)]
    have HM := Lib.hid hM
    clear hH hM hk hin hx hr hkr hdp
    go_enter Try.func89, Try.ntmps89
    go_wp2_with fail
    refine HM1.out.mono ?_
    rintro e w1 ⟨rfl, q, rfl⟩
    go_wp2
    refine bodyPost_ret (v := .tuple #[]) (by simp [results, Try.results89, go_sem]) rfl ⟨rfl, by rw [HE.out]; exact HM.out.next (below_drewN (Below.refl _ _) q), below_drewN (Below.refl _ _) q⟩
  · rw [show decide (x ∈ s.on) = false by simpa using hin] at HM1
    obtain ⟨Am, nm, cm, ms, S, sn, sc, h⟩ := hM
    obtain ⟨hl, h256⟩ := hH.len
    obtain ⟨t, rfl, ht1, ht2, ht3, ht4, ht5, ht6, ht7, ht8, ht9⟩ := live_facts hH.wf hx
    have hsn := h.size
    have hlkq := fun q => (hH.heads.drewN q).look headT (x := (t : Int)) (wf_i64.2 (by omega))
    rw [getD_hd _ hx, Int.toNat_natCast] at hlkq
    have HL := Lib.hid (fun w => lengthOk (vR (nth zs t)) (vB (nth zs t)) (vT (nth zs t)) (vF (nth zs t)) w ht5)
    have HSE : Hid (spotE ms (n : Int) (t : Int) (longN zs t : Nat) = 0) := spotE_ok (by rw [← hl]; exact h.on.form) (validB_true (by omega))
    have HON := Lib.hid (h.on.step hx)
    rw [Int.toNat_natCast] at HON
    obtain ⟨N, hN⟩ : ∃ N, longN zs t = N := ⟨_, rfl⟩
    rw [hN] at ht6 ht7 HSE HON
    generalize vR (nth zs t) = R at *
    generalize vB (nth zs t) = Bd at *
    generalize vT (nth zs t) = T at *
    generalize vF (nth zs t) = F at *
    have hN2 : 1 + R + Bd = (N : Int) := ht6.symm
    rw [hN2] at HL
    have d1 : w.cell? ⟨b, 1, none⟩ = some (.map (some g)) := h.box.cell 1
    have HH := Lib.hid hH
    have HK := Lib.hid h
    have HIN := Lib.hid hin
    have HSN := Lib.hid hsn
    have hsr : sn ≤ room := by omega
    have HK0 : Hid (B ≤ w.heap.size) := Nat.le_trans h.bb (Nat.le_of_lt h.box.lt)
    clear hH h hin hN hsn hkr ht2 ht3 ht4 ht5 ht6 ht8 ht9 hN2
    go_enter Try.func89, Try.ntmps89
    go_wp2_with fail
    refine HM1.out.mono ?_
    rintro e w1 ⟨rfl, q, rfl⟩
    have d1' : (w.drewN q).cell? ⟨b, 1, none⟩ = some (.map (some g)) := d1
    have hlk' : Sem.run Try.prog (Instr.lookup 104 (.map (some g)) (.int .i64 (t : Int)) false) (w.drewN q) = .ok (.agg #[.int .i64 R, .int .i64 Bd, .int .i64 T, .bool F]) (w.drewN q) := hlkq q
    have HK1 := Lib.hid (HK.out.next (below_drewN (Below.refl _ _) q))
    have HBq : Hid (Below w.heap.size w (w.drewN q)) := below_drewN (Below.refl _ _) q
    clear d1 hlkq HM1 HK
    generalize w.drewN q = W at *
    go_wp2_with fail
    refine (HL.out _).mono ?_
    rintro e w1 ⟨rfl, b1⟩
    have HK2 := Lib.hid (HK1.out.next b1)
    have HB2 := Lib.hid (HBq.out.trans (b1.mono HBq.out.size))
    clear b1 HK1 HBq d1' hlk' HL
    go_wp2_with fail
    refine wp_region_Y 19 (fun w' => w'.cell? ⟨b, 3, none⟩ = some (.slice Am nm cm) ∧ w'.cell? ⟨b, 0, none⟩ = some (.slice A n c)) (by kernel_rfl) ?_
    have hS0 : w1.drew.cell? ⟨b, 3, none⟩ = some (.slice Am nm cm) ∧ w1.drew.cell? ⟨b, 0, none⟩ = some (.slice A n c) := ⟨HK2.out.box.cell 3, HK2.out.box.cell 0⟩
    change anyY _ _ _ _ _ _ _ _ _ w1.drew
    refine anyY_pure (i := 0) (v := .pointer (some ⟨b, 0, none⟩)) rfl rfl rfl (by kernel_rfl) (by kernel_rfl) (by kernel_rfl) (fun _ _ _ h => h) (Or.inl ⟨by rfl, fun wx _ => ?_⟩) (.inr hS0) ?_
    · go_simp
    refine anyY_pure (i := 1) (v := .pointer (some ⟨b, 0, none⟩)) rfl rfl rfl (by kernel_rfl) (by kernel_rfl) (by kernel_rfl) (fun _ _ _ h => h) (Or.inl ⟨by rfl, fun wx _ => ?_⟩) (.inr hS0) ?_
    · go_simp
    refine anyY_pure (i := 2) (v := .pointer (some ⟨b, 0, none⟩)) rfl rfl rfl (by kernel_rfl) (by kernel_rfl) (by kernel_rfl) (fun _ _ _ h => h) (Or.inl ⟨by rfl, fun wx _ => ?_⟩) (.inr hS0) ?_
    · go_simp
    refine anyY_pure (i := 3) (v := .pointer (some ⟨b, 3, none⟩)) rfl rfl rfl (by kernel_rfl) (by kernel_rfl) (by kernel_rfl) (fun _ _ _ h => h) (Or.inl ⟨by rfl, fun wx _ => ?_⟩) (.inr hS0) ?_
    · go_simp
    refine anyY_take (i := 4) (v := .slice Am nm cm) rfl rfl (by kernel_rfl) rfl (by kernel_rfl) (by kernel_rfl) (by kernel_rfl) (by kernel_rfl) (fun _ _ _ h => h) (Or.inl ⟨by rfl, fun wx hS => ?_⟩) hS0 ?_
    · obtain ⟨q1, q2⟩ := hS
      go_simp
    refine anyY_pure (i := 5) (v := .pointer (some ⟨b, 0, none⟩)) rfl rfl rfl (by kernel_rfl) (by kernel_rfl) (by kernel_rfl) (fun _ _ _ h => h) (Or.inl ⟨by rfl, fun wx _ => ?_⟩) (.inr hS0) ?_
    · go_simp
    refine anyY_pure (i := 6) (v := .pointer (some ⟨b, 0, none⟩)) rfl rfl rfl (by kernel_rfl) (by kernel_rfl) (by kernel_rfl) (fun _ _ _ h => h) (Or.inl ⟨by rfl, fun wx _ => ?_⟩) (.inr hS0) ?_
    · go_simp
    refine anyY_pure (i := 7) (v := .pointer (some ⟨b, 0, none⟩)) rfl rfl rfl (by kernel_rfl) (by kernel_rfl) (by kernel_rfl) (fun _ _ _ h => h) (Or.inl ⟨by rfl, fun wx _ => ?_⟩) (.inr hS0) ?_
    · go_simp
    refine anyY_pure (i := 8) (v := .pointer (some ⟨b, 0, none⟩)) rfl rfl rfl (by kernel_rfl) (by kernel_rfl) (by kernel_rfl) (fun _ _ _ h => h) (Or.inl ⟨by rfl, fun wx _ => ?_⟩) (.inr hS0) ?_
    · go_simp
    refine anyY_take (i := 9) (v := .slice A n c) rfl rfl (by kernel_rfl) rfl (by kernel_rfl) (by kernel_rfl) (by kernel_rfl) (by kernel_rfl) (fun _ _ _ h => h) (Or.inl ⟨by rfl, fun wx hS => ?_⟩) hS0 ?_
    · obtain ⟨q1, q2⟩ := hS
      go_simp
    refine anyY_pure (i := 10) (v := .int .i64 n) rfl rfl rfl (by kernel_rfl) (by kernel_rfl) (by kernel_rfl) (fun _ _ _ h => h) (Or.inl ⟨by rfl, fun wx _ => ?_⟩) (.inr hS0) ?_
    · go_simp
    refine anyY_pure (i := 11) (v := .int .i64 (t : Int)) rfl rfl rfl (by kernel_rfl) (by kernel_rfl) (by kernel_rfl) (fun _ _ _ h => h) (Or.inl ⟨by rfl, fun wx _ => ?_⟩) (.inr hS0) ?_
    · go_simp
    refine anyY_pure (i := 12) (v := .int .i64 (N : Int)) rfl rfl rfl (by kernel_rfl) (by kernel_rfl) (by kernel_rfl) (fun _ _ _ h => h) (Or.inl ⟨by rfl, fun wx _ => ?_⟩) (.inr hS0) ?_
    · go_simp
    refine anyY_only (i := 13) (by kernel_rfl) ?_
    have HST := Lib.hid (set_okQ Am nm cm t N (n : Int) true ms w1.drew HSE.out (HK2.out.arr.drewN 1))
    have HKd := Lib.hid (HK2.out.next (w' := w1.drew) (below_drewN (Below.refl _ _) 1))
    have HBd : Hid (Below w.heap.size w w1.drew) := below_drewN HB2.out 1
    clear HK2 HB2
    generalize w1.drew = W1 at *
    refine wpOp_step rfl fun K' hK' => ?_
    go_simp
    refine HST.out.mono ?_
    rintro e w2 ⟨A3, c3, rfl, b2, ha3, hi3⟩
    rw [Int.toNat_natCast, Int.toNat_natCast] at ha3
    have HK3 := Lib.hid (HKd.out.next b2)
    have hS2 : w2.cell? ⟨b, 3, none⟩ = some (.slice Am nm cm) ∧ w2.cell? ⟨b, 0, none⟩ = some (.slice A n c) := ⟨HK3.out.box.cell 3, HK3.out.box.cell 0⟩
    refine hK' _ _ ⟨.inr (.inr hS2), ?_⟩
    clear hK'
    refine anyY_pure (i := 14) (v := .tuple #[.slice A3 nm c3, .int .i64 0]) rfl rfl rfl (by kernel_rfl) (by kernel_rfl) (by kernel_rfl) (fun _ _ _ h => h) (Or.inl ⟨by rfl, fun wx _ => ?_⟩) (.inr hS2) ?_
    · go_simp
    refine anyY_pure (i := 15) (v := .slice A3 nm c3) rfl rfl rfl (by kernel_rfl) (by kernel_rfl) (by kernel_rfl) (fun _ _ _ h => h) (Or.inl ⟨by rfl, fun wx _ => ?_⟩) (.inr hS2) ?_
    · go_simp
    refine anyY_pure (i := 16) (v := .int .i64 0) rfl rfl rfl (by kernel_rfl) (by kernel_rfl) (by kernel_rfl) (fun _ _ _ h => h) (Or.inl ⟨by rfl, fun wx _ => ?_⟩) (.inr hS2) ?_
    · go_simp
    refine anyY_pure (i := 17) (v := .pointer (some ⟨b, 0, none⟩)) rfl rfl rfl (by kernel_rfl) (by kernel_rfl) (by kernel_rfl) (fun _ _ _ h => h) (Or.inl ⟨by rfl, fun wx _ => ?_⟩) (.inr hS2) ?_
    · go_simp
    refine anyY_pure (i := 18) (v := .pointer (some ⟨b, 3, none⟩)) rfl rfl rfl (by kernel_rfl) (by kernel_rfl) (by kernel_rfl) (fun _ _ _ h => h) (Or.inl ⟨by rfl, fun wx _ => ?_⟩) (.inr hS2) ?_
    · go_simp
    refine anyY_only (i := 19) (by kernel_rfl) ?_
    have e3 := HK3.out.box.soft 3
    have HK4 := Lib.hid (HK3.out.marks (c3 := c3) ha3 hi3 HKd.out.box.lt HKd.out.own.rowLt HON.out)
    have HB4 : Hid (Below B w (w2.setCell ⟨b, 3, none⟩ (.slice A3 nm c3))) := below_set ((HBd.out.mono (by have := HKd.out.bb; have := HK0.out; omega)).trans (b2.mono (by have := HKd.out.bb; have := HKd.out.box.lt; omega))) HKd.out.bb _ _
    obtain ⟨hS3, _⟩ := hS2
    refine wpOp_step rfl fun K' hK' => ?_
    go_simp
    refine hK' _ _ ⟨.inr (.inl rfl), anyY_done (by kernel_rfl) ?_ _⟩
    clear hK' hS3 e3 hS0 HK3 HKd HBd b2 ha3 hi3 HON HSE HST
    generalize (w2.setCell ⟨b, 3, none⟩ (.slice A3 nm c3)) = W4 at *
    have d4 : W4.cell? ⟨b, 4, none⟩ = some (.slice S sn sc) := HK4.out.box.cell 4
    have d5 : W4.cell? ⟨b, 5, none⟩ = some (.int .i64 room) := HK4.out.box.cell 5
    go_wp2_with fail
    by_cases hfull : room ≤ sn
    · obtain rfl : sn = room := by omega
      have c1 : ((sn : Int) == (sn : Int)) = true := by simp
      have HE : Hid (mk1 sn s (t : Int) = { s with on := s.on ++ [(t : Int)], over := true }) := by
        show _ = _
        have := HSN.out
        unfold mk1
        rw [if_neg (by rintro (h | h); omega; exact HIN.out h), if_pos (by omega)]
      go_quiet (fail)
      have HK5 := Lib.hid (HK4.out.next (w' := W4.drewN nq) (below_drewN (Below.refl _ _) nq))
      have HB5 : Hid (Below B w (W4.drewN nq)) := below_drewN HB4.out nq
      clear HK4 HB4 d4 d5 c1
      generalize W4.drewN nq = W5 at *
      have d6 : W5.cell? ⟨b, 6, none⟩ = some (.bool s.over) := HK5.out.box.cell 6
      have s6 := HK5.out.box.soft 6
      have HK6 := Lib.hid (HK5.out.cell (j := 6) (d := .bool true) (s' := { s with on := s.on ++ [(t : Int)], over := true }) (ps' := ps) rfl rfl rfl)
      have HB6 : Hid (Below B w (W5.setCell ⟨b, 6, none⟩ (.bool true))) := below_set HB5.out HK5.out.bb _ _
      clear HK5 HB5
      go_wp2
      refine bodyPost_ret (v := .tuple #[]) (by simp [results, Try.results89, go_sem]) rfl ⟨rfl, ⟨_, _, _, _, _, _, _, by rw [HE.out]; exact HK6.out⟩, HB6.out⟩
    · have c1 : ((sn : Int) == (room : Int)) = false := by simp; omega
      have HE : Hid (mk1 room s (t : Int) = { on := s.on ++ [(t : Int)], stk := s.stk ++ [(t : Int)], over := s.over, deep := max s.deep (s.stk.length + 1) }) := by
        show _ = _
        have := HSN.out
        unfold mk1
        rw [if_neg (by rintro (h | h); omega; exact HIN.out h), if_neg (by omega)]
      go_quiet (fail)
      have HK5 := Lib.hid (HK4.out.next (w' := W4.drewN nq) (below_drewN (Below.refl _ _) nq))
      have HB5 : Hid (Below B w (W4.drewN nq)) := below_drewN HB4.out nq
      clear HK4 HB4 d4 d5 c1
      generalize W4.drewN nq = W5 at *
      have hown : Own .i64 3 W5 B (.slice S sn sc) s.stk := HK5.out.own
      obtain ⟨v', w6, hrun, hO, hG⟩ := hown.pushG (P := Try.prog) (t := 23) (ty := 23) Try.underlying23 intI_info (by omega) (x := (t : Int)) (wf_i64.2 (by omega)) (by have := HSN.out; omega) (Nat.le_trans HK5.out.bb (Nat.le_of_lt HK5.out.box.lt))
      obtain ⟨S', sc', rfl, _, _⟩ := hO.arr
      have HK6 := Lib.hid (HK5.out.stack hG hO)
      have HB6 : Hid (Below B w (w6.setCell ⟨b, 4, none⟩ (.slice S' (s.stk ++ [(t : Int)]).length sc'))) := below_set (HB5.out.trans (hG.below (Nat.le_trans HK5.out.bb (Nat.le_of_lt HK5.out.box.lt)) HK5.out.own.row)) HK5.out.bb _ _
      have d4 : W5.cell? ⟨b, 4, none⟩ = some (.slice S sn sc) := HK5.out.box.cell 4
      obtain ⟨hbx, _⟩ := HK5.out.box.grew hG HK5.out.sb
      have e4 : w6.cell? ⟨b, 4, none⟩ = some (.slice S sn sc) := hbx.cell 4
      have f4 := hbx.soft 4
      have hM : (s.stk ++ [(t : Int)]).length = sn + 1 := by have := HSN.out; rw [List.length_append, List.length_singleton]; omega
      have HRN := Lib.hid hrun
      clear hrun hO hG hbx HB5 HK5 hown
      obtain ⟨M, hMM⟩ : ∃ M, (s.stk ++ [(t : Int)]).length = M := ⟨_, rfl⟩
      rw [hMM] at HRN HK6 HB6 hM
      have HMM := Lib.hid hMM
      have HM1' := Lib.hid hM
      clear hMM hM
      go_wp2_with (at_builtin; refine wpList_append_run rfl (.tmp 56) (.tmp 58) 23 rfl rfl rfl HRN.out ?_)
      clear d4 e4 f4 HRN
      generalize (w6.setCell ⟨b, 4, none⟩ (.slice S' M sc')) = W7 at *
      have d4 : W7.cell? ⟨b, 4, none⟩ = some (.slice S' M sc') := HK6.out.box.cell 4
      have d8 : W7.cell? ⟨b, 8, none⟩ = some (.int .i64 s.deep) := HK6.out.box.cell 8
      refine wp_region_still_tail 11 (by kernel_rfl) (by kernel_rfl) ?_
      simp only [List.take_succ_cons, List.take_zero, List.drop_succ_cons, List.drop_zero]
      repeat still_step
      refine wpStill_nil ?_
      change wpList _ _ _ _ _ (W7.drewN 1)
      have HK8 := Lib.hid (HK6.out.next (w' := W7.drewN 1) (below_drewN (Below.refl _ _) 1))
      have HB8 : Hid (Below B w (W7.drewN 1)) := below_drewN HB6.out 1
      clear d4 d8 HK6 HB6
      generalize W7.drewN 1 = W8 at *
      have e8 : W8.cell? ⟨b, 8, none⟩ = some (.int .i64 s.deep) := HK8.out.box.cell 8
      have f8 := HK8.out.box.soft 8
      have HEND : Hid (∀ D : Nat, max s.deep (s.stk.length + 1) = D → MkI zs B b room A n c g L lc { on := s.on ++ [(t : Int)], stk := s.stk ++ [(t : Int)], over := s.over, deep := max s.deep (s.stk.length + 1) } ps A3 nm c3 (setL ms t N true) S' M sc' (W8.setCell ⟨b, 8, none⟩ (.int .i64 D)) ∧ Below B w (W8.setCell ⟨b, 8, none⟩ (.int .i64 D))) := fun D hD =>
        ⟨HK8.out.cell (j := 8) (d := .int .i64 D) (s' := { on := s.on ++ [(t : Int)], stk := s.stk ++ [(t : Int)], over := s.over, deep := max s.deep (s.stk.length + 1) }) (ps' := ps) (by rw [hD]; rfl) rfl rfl, below_set HB8.out HK8.out.bb _ _⟩
      clear HK8 HB8
      go_wp2
      · refine bodyPost_end (v := .tuple #[]) (by simp [results, Try.results89, go_sem]) rfl ⟨rfl, ⟨_, _, _, _, _, _, _, by rw [HE.out]; exact (HEND.out M (by have := HM1'.out; have := HSN.out; omega)).1⟩, (HEND.out M (by have := HM1'.out; have := HSN.out; omega)).2⟩
      · refine bodyPost_end (v := .tuple #[]) (by simp [results, Try.results89, go_sem]) rfl ⟨rfl, ⟨_, _, _, _, _, _, _, by rw [HE.out]; exact (HEND.out s.deep (by have := HM1'.out; have := HSN.out; omega)).1⟩, (HEND.out s.deep (by have := HM1'.out; have := HSN.out; omega)).2⟩
/-- A number for each world: the least one that a rule takes. -/
theorem least_of (p : Nat → Prop) : (∃ m, p m) → ∃ m, p m ∧ ∀ k, p k → m ≤ k := by
  rintro ⟨m, hm⟩
  induction m using Nat.strongRecOn with
  | ind m ih =>
    by_cases h : ∃ k, k < m ∧ p k
    · obtain ⟨k, hk, hp⟩ := h
      exact ih k hk hp
    · exact ⟨m, hm, fun k hp => Nat.le_of_not_lt fun hk => h ⟨k, hk, hp⟩⟩
theorem least_fn {α : Type} (J : Nat → α → Prop) : ∃ μ : α → Nat, ∀ w, (∃ m, J m w) → J (μ w) w ∧ ∀ k, J k w → μ w ≤ k := by
  have h : ∀ w : α, ∃ m : Nat, (∃ m, J m w) → J m w ∧ ∀ k, J k w → m ≤ k := fun w => by
    by_cases hw : ∃ m, J m w
    · obtain ⟨m, h⟩ := least_of (fun m => J m w) hw
      exact ⟨m, fun _ => h⟩
    · exact ⟨0, fun h => absurd h hw⟩
  exact ⟨fun w => Classical.choose (h w), fun w => Classical.choose_spec (h w)⟩
/-- All is right with a marker and its room. -/
structure MG (L : List Int) (room : Nat) (s : MS) : Prop where
  ok : MOk L s
  fits : s.stk.length ≤ room
  deep : s.deep ≤ room
theorem MG.mk1 {L : List Int} {room : Nat} {s : MS} (h : MG L room s) {x : Int} (hx : x < 0 ∨ x ∈ L) : MG L room (mk1 room s x) := ⟨(mk1_ok h.ok hx).1, mk1_room h.fits x, mk1_deep h.deep x⟩
theorem MG.mkL {L : List Int} {room : Nat} : ∀ {l : List Int} {s : MS}, MG L room s → (∀ x ∈ l, x < 0 ∨ x ∈ L) → MG L room (mkL room s l)
  | [], _, h, _ => h
  | x :: l, _, h, hl => MG.mkL (l := l) (h.mk1 (hl x (by simp))) fun y hy => hl y (by simp [hy])
theorem MG.popped {L : List Int} {room : Nat} {s : MS} (h : MG L room s) : MG L room { s with stk := s.stk.dropLast } := ⟨popped_ok h.ok, by have := h.fits; simp only [List.length_dropLast]; omega, h.deep⟩
theorem MG.drain {nx : Int → List Int} {L : List Int} {room : Nat} {s : MS} (hl : L.length ≤ 256) (hc : Closed nx L) (h : MG L room s) : MG L room (drain nx room s) :=
  ⟨(drain_rest hl hc h.ok).1, by rw [(drain_rest (room := room) hl hc h.ok).2]; exact Nat.zero_le _, drainF_deep _ h.deep⟩
/-- What the references of an object name. -/
theorem refs_named {zs : List Int} (hz : ∀ z ∈ zs, (Lit.int .u64 z).wf = true) (h : arErr zs = 0) {t : Nat} (ht : (t : Int) ∈ livesI zs) {k : Nat} (hk : k < (refWords zs t).length) :
    nth (refWords zs t) k = 0 ∨ (1 ≤ nth (refWords zs t) k ∧ nth (refWords zs t) k ≤ 256 ∧ nth (refWords zs t) k - 1 ∈ livesI zs) := by
  have hmem : nth (refWords zs t) k ∈ refWords zs t := nth_mem hk
  have h0 := refs_wf hz _ hmem
  have hc := lives_closed hz h (t : Int) ht (nm (nth (refWords zs t) k)) (by
    unfold nxOf named
    rw [Int.toNat_natCast]
    exact List.mem_map.2 ⟨_, hmem, rfl⟩)
  generalize nth (refWords zs t) k = X at *
  have h256 := arena_len h
  unfold nm at hc
  split at hc
  · rcases hc with hc | hc
    · omega
    · have := lives_lt hc; omega
  · rcases hc with hc | hc
    · exact .inl (by omega)
    · have := lives_lt hc
      exact .inr ⟨by omega, by omega, hc⟩
theorem named_take {zs : List Int} {t k : Nat} (hk : k < (refWords zs t).length) : (named zs t).take (k + 1) = (named zs t).take k ++ [nm (nth (refWords zs t) k)] := by
  unfold named
  rw [← List.map_take, ← List.map_take, List.take_succ_eq_append_getElem hk, List.map_append, nth_get _ _ hk]
  rfl
theorem named_sub {zs : List Int} (hz : ∀ z ∈ zs, (Lit.int .u64 z).wf = true) (h : arErr zs = 0) {t : Nat} (ht : (t : Int) ∈ livesI zs) : ∀ x ∈ named zs t, x < 0 ∨ x ∈ livesI zs := fun x hx =>
  lives_closed hz h (t : Int) ht x (by unfold nxOf; rw [Int.toNat_natCast]; exact hx)
set_option maxRecDepth 8000 in
set_option maxHeartbeats 2000000 in
theorem eachRef_any {zs : List Int} {B b room n c g lc ps : Nat} {A L : Option Addr} {s : MS} (w : World) (hH : Hp zs B A n c g L w) (hM : Mk zs B b room A n c g L lc s ps w) (hk : MG (livesI zs) room s) (hr : room ≤ 256) {t : Nat} (ht : (t : Int) ∈ livesI zs) :
    Calls Try.prog 112 #[.agg #[.slice A n c, .map (some g), .slice L (livesI zs).length lc], .int .i64 t, .func (.func 89) #[.pointer (some ⟨b, 0, none⟩)] #[]] w
      fun e w' => e = .returned (.tuple #[]) ∧ Mk zs B b room A n c g L lc (mkL room s (named zs t)) ps w' ∧ Below B w w' := by
  obtain ⟨hl, h256⟩ := hH.len
  have hBw : B ≤ w.heap.size := by
    obtain ⟨_, _, _, _, _, _, _, h⟩ := hM
    exact Nat.le_trans h.bb (Nat.le_of_lt h.box.lt)
  obtain ⟨t', e', ht1, ht2, ht3, ht4, ht5, ht6, ht7, ht8, ht9⟩ := live_facts hH.wf ht
  obtain rfl : t' = t := by omega
  clear e'
  have hst := (begins_mem ht8).2.2
  obtain ⟨R, Bd, hR, hBd, f1, f2, f3, f4, f5, f6, f7, f8⟩ := spot_facts hst hH.wf (by omega)
  have hrl := refWords_len hst
  have hrw : refWords zs t' = (zs.drop (t' + 1)).take R := by unfold refWords; rw [hR]; rfl
  rw [hR, Int.toNat_natCast] at hrl
  have hb0 := (Below.refl _ w).alloc (Nat.le_refl _) (.cells #[.slice A n c, .map (some g), .slice L (livesI zs).length lc] 106)
  have hH0 := hH.below (hb0.mono hBw)
  have hlk := fun q => (hH0.heads.drewN q).look headT (x := (t' : Int)) (wf_i64.2 (by omega))
  rw [getD_hd _ ht, Int.toNat_natCast, hR] at hlk
  obtain ⟨D, hD, hD2⟩ := run_from (P := Try.prog) Try.underlying22 u64_size A n c (t' + 1) ((t' : Int) + 1) (by omega) (by omega) hH.cap
  obtain ⟨E, hE, hE2⟩ := run_upto (P := Try.prog) Try.underlying22 u64_size D (n - (t' + 1)) (c - (t' + 1)) R R rfl (by have := hH.cap; omega)
  have hA := hH.arena.cut2 (p := t' + 1) (q := R) (by omega) hD2 hE2
  rw [← hrw] at hA
  have HA := Lib.hid hA
  have HH := Lib.hid hH
  have HM := Lib.hid (hM.next hb0)
  have HB0 := Lib.hid (hb0.mono hBw)
  have HK := Lib.hid hk
  have HT := Lib.hid ht
  have HRL := Lib.hid hrl
  have HNS := Lib.hid (named_sub hH.wf hH.ok ht)
  have HWF : Hid (∀ k, k < R → nth (refWords zs t') k = 0 ∨ (1 ≤ nth (refWords zs t') k ∧ nth (refWords zs t') k ≤ 256 ∧ nth (refWords zs t') k - 1 ∈ livesI zs)) := fun k hk => refs_named hH.wf hH.ok ht (by rw [hrl]; exact hk)
  have g1 : IntKind.i64.wrap ((t' : Int) + 1) = t' + 1 := IntWalk.i64_in _ (by omega)
  have hR2 : R ≤ 256 := by omega
  have BX := Lib.hid (Box.new w 106 #[.slice A n c, .map (some g), .slice L (livesI zs).length lc])
  clear hA hrw hrl hD2 hE2 hst hH hM hk ht hb0 hH0 ht2 ht3 ht4 ht5 ht6 ht7 ht8 ht9 f1 f2 f3 f4 f5 f6 f7 f8 hR hBd
  generalize vB (nth zs t') = Bw at *
  generalize vT (nth zs t') = T at *
  generalize vF (nth zs t') = F at *
  obtain ⟨ln, hln⟩ : ∃ q, (livesI zs).length = q := ⟨_, rfl⟩
  rw [hln] at BX HB0 HM hlk ⊢
  clear hln
  go_enter Try.func112, Try.ntmps112
  go_wp2_with fail
  generalize (w.alloc (.cells #[.slice A n c, .map (some g), .slice L ln lc] 106)) = W at *
  have c0 : W.cell? ⟨w.heap.size, 0, none⟩ = some (.slice A n c) := BX.out.cell 0
  have c1 : W.cell? ⟨w.heap.size, 1, none⟩ = some (.map (some g)) := BX.out.cell 1
  have hfd : ∀ w : World, (Instr.field 44 (.agg #[.int .i64 (R : Int), .int .i64 Bw, .int .i64 T, .bool F]) 0).run Try.prog w = .ok (.int .i64 (R : Int)) w := fun _ => by kernel_rfl
  go_quiet (fail)
  have HM2 := Lib.hid (HM.out.next (w' := W.drewN nq) (below_drewN (Below.refl _ _) nq))
  have HB2 : Hid (Below B w (W.drewN nq)) := below_drewN HB0.out nq
  clear c0 c1 hlk hD hE g1 hfd HM HB0 BX
  generalize W.drewN nq = W2 at *
  go_wp2_with fail
  go_loopw [20] (fun i wr => ∃ k : Nat, k ≤ R ∧ i = .int .i64 k ∧ Hid (Mk zs B b room A n c g L lc (mkL room s ((named zs t').take k)) ps wr) ∧ Hid (Below B w wr)) (fun i _ => R - (intOf i).toNat)
  case atStart => exact ⟨0, Nat.zero_le _, rfl, HM2.out, HB2.out⟩
  case round =>
    obtain ⟨k, hk, rfl, HMk, HBk⟩ := hrel
    clear HM2 HB2
    by_cases hlt : k < R
    · have hAk := HA.out.below HBk.out (Nat.le_refl _)
      obtain ⟨b', off, rfl, _, hcs⟩ := hAk.2.2 (by omega)
      have hc := hcs k hlt
      have HTK := Lib.hid (named_take (zs := zs) (t := t') (k := k) (by rw [HRL.out]; exact hlt))
      have hX := HWF.out k hlt
      have HGk : Hid (MG (livesI zs) room (mkL room s ((named zs t').take k))) := HK.out.mkL fun x hx => HNS.out x (List.mem_of_mem_take hx)
      clear hcs hAk
      generalize nth (refWords zs t') k = X at *
      rcases hX with rfl | ⟨x1, x2, x3⟩
      · have HN : Hid (Mk zs B b room A n c g L lc (mkL room s ((named zs t').take (k + 1))) ps wr) := by
          show Mk _ _ _ _ _ _ _ _ _ _ _ _ _
          rw [HTK.out, mkL_snoc, show nm 0 = -1 from rfl]
          unfold mk1
          rw [if_pos (.inl (by omega))]
          exact HMk.out
        have c0 : ((0 : Int) != 0) = false := rfl
        clear HMk HTK
        go_wp2
        go_roundw
        case rel => exact ⟨k + 1, by omega, by go_num, HN.out, HBk.out⟩
        case measure => simp [intOf]; omega
      · have HC := Lib.hid (mark_any wr (HH.out.below HBk.out) HMk.out HGk.out.ok HGk.out.fits hr HGk.out.deep x3)
        have HN : Hid (mk1 room (mkL room s ((named zs t').take k)) (X - 1) = mkL room s ((named zs t').take (k + 1))) := by
          show _ = _
          rw [HTK.out, mkL_snoc]
          unfold nm
          rw [if_neg (by omega)]
        rw [HN.out] at HC
        have c0 : (X != 0) = true := by simp; omega
        have e1 : IntKind.i64.wrap X = X := IntWalk.i64_in _ (by omega)
        have e2 : IntKind.i64.wrap (X - 1) = X - 1 := IntWalk.i64_in _ (by omega)
        clear HMk HTK HGk x3
        go_wp2_with fail
        refine HC.out.mono ?_
        rintro e w3 ⟨rfl, hm3, hb3⟩
        have HM3 := Lib.hid hm3
        have HB3 := Lib.hid (HBk.out.trans hb3)
        clear hm3 hb3 HC HBk
        go_wp2
        go_roundw
        case rel => exact ⟨k + 1, by omega, by go_num, HM3.out, HB3.out⟩
        case measure => simp [intOf]; omega
    · obtain rfl : k = R := by omega
      have HL : Hid ((named zs t').take k = named zs t') := by
        show _ = _
        rw [List.take_of_length_le (by unfold named; rw [List.length_map, HRL.out]; exact Nat.le_refl _)]
      rw [HL.out] at HMk
      clear HL
      go_wp2
      refine bodyPost_end (v := .tuple #[]) (by simp [results, Try.results112, go_sem]) rfl ⟨rfl, HMk.out, HBk.out⟩
theorem int_size : (Try.prog.info? 3).map (·.size) = some 1 := by kernel_rfl
theorem Own.upto {k : IntKind} {e : TypeId} {w : World} {base g n cap m : Nat} {xs : List Int} (h : Own k e w base (.slice (some ⟨g, 0, none⟩) n cap) xs) (hm : m ≤ xs.length) : Own k e w base (.slice (some ⟨g, 0, none⟩) m cap) (xs.take m) := by
  obtain ⟨⟨hl, h2⟩, hw⟩ := h
  rcases h2 with ⟨h, _⟩ | ⟨g', cap', cur, hv, hg, hh, hc, hcm, hs, ht⟩
  · injection h with h; cases h
  · injection hv with e1 e2 e3
    injection e1 with e1
    injection e1 with e1
    subst e1 e3
    have hml : (xs.take m).length = m := by rw [List.length_take]; omega
    refine ⟨⟨by simp, .inr ⟨g, cap, cur, by rw [hml], hg, hh, by rw [hml]; omega, hcm, hs, ?_⟩⟩, fun x hx => hw x (List.mem_of_mem_take hx)⟩
    rw [hml, List.map_take, ← ht, List.take_take]
    congr 1
    omega
theorem MG.visit {nx : Int → List Int} {L : List Int} {room : Nat} {s : MS} (hl : L.length ≤ 256) (hc : Closed nx L) (h : MG L room s) {x : Int} (hx : x ∈ L) : MG L room (visit nx room s x) := by
  unfold Go.Proofs.Ytjefbekdjgmmbaa.visit
  split
  · exact (h.mkL (hc x hx)).drain hl hc
  · exact h
theorem MG.sweep {nx : Int → List Int} {L : List Int} {room : Nat} (hl : L.length ≤ 256) (hc : Closed nx L) : ∀ {l : List Int} {s : MS}, MG L room s → (∀ x ∈ l, x ∈ L) → MG L room (sweep nx room s l)
  | [], _, h, _ => h
  | x :: l, _, h, hs => MG.sweep hl hc (l := l) (h.visit hl hc (hs x (by simp))) fun y hy => hs y (by simp [hy])
/-- What holds while the stack is emptied; 'm' is what is left to do. -/
def DrainJ (zs : List Int) (B b room : Nat) (A : Option Addr) (n c g : Nat) (L : Option Addr) (lc : Nat) (s : MS) (ps : Nat) (w : World) (m : Nat) (wr : World) : Prop :=
  ∃ s', Mk zs B b room A n c g L lc s' ps wr ∧ MG (livesI zs) room s' ∧ drain (nxOf zs) room s' = drain (nxOf zs) room s ∧ Below B w wr ∧ mu (livesI zs) s' = m
set_option maxRecDepth 8000 in
set_option maxHeartbeats 2000000 in
theorem drain_any {zs : List Int} {B b room n c g lc ps : Nat} {A L : Option Addr} {s : MS} (w : World) (hH : Hp zs B A n c g L w) (hM : Mk zs B b room A n c g L lc s ps w) (hk : MG (livesI zs) room s) (hr : room ≤ 256) :
    Calls Try.prog 90 #[.pointer (some ⟨b, 0, none⟩)] w fun e w' => e = .returned (.tuple #[]) ∧ Mk zs B b room A n c g L lc (drain (nxOf zs) room s) ps w' ∧ Below B w w' := by
  obtain ⟨hl, h256⟩ := hH.len
  obtain ⟨μ, hμ⟩ := least_fn (DrainJ zs B b room A n c g L lc s ps w)
  have HMU := Lib.hid hμ
  have HH := Lib.hid hH
  have HCL := Lib.hid hH.closed
  have HLL := Lib.hid (lives_len (zs := zs) (by omega))
  have HJ0 : Hid (DrainJ zs B b room A n c g L lc s ps w (mu (livesI zs) s) w) := ⟨s, hM, hk, rfl, Below.refl _ _, rfl⟩
  clear hμ hH hM hk
  go_enter Try.func90, Try.ntmps90
  go_wp2_with fail
  go_loopw [9] (fun _ wr => Hid (∃ m, DrainJ zs B b room A n c g L lc s ps w m wr)) (fun _ wr => μ wr)
  case atStart => exact ⟨_, HJ0.out⟩
  case round =>
    clear HJ0
    obtain ⟨s', hM, hG, hD, hB, hmu⟩ := (HMU.out wr hrel.out).1
    obtain ⟨Am, nm, cm, ms, S, sn, sc, h⟩ := hM
    have hsn := h.size
    have d4 : wr.cell? ⟨b, 4, none⟩ = some (.slice S sn sc) := h.box.cell 4
    by_cases h0 : s'.stk = []
    · have hs0 : sn = 0 := by rw [hsn, h0]; rfl
      subst hs0
      have HE : Hid (Mk zs B b room A n c g L lc (drain (nxOf zs) room s) ps wr) := by
        show Mk _ _ _ _ _ _ _ _ _ _ _ _ _
        rw [← hD, drain_done h0]
        exact ⟨_, _, _, _, _, _, _, h⟩
      have HB := Lib.hid hB
      clear h hG hD hB hmu h0 hsn hrel
      go_wp2
      refine bodyPost_end (v := .tuple #[]) (by simp [results, Try.results90, go_sem]) rfl ⟨rfl, HE.out, HB.out⟩
    · have hpos : 0 < s'.stk.length := List.length_pos_iff.2 h0
      obtain ⟨k, hkk⟩ : ∃ k, sn = k + 1 := ⟨sn - 1, by omega⟩
      obtain ⟨g', cap, hv, hgb, hglt, hcells, _⟩ := h.own.form hpos
      injection hv with e1 e2 e3
      subst e1 e3
      clear e2
      have hmem : nth s'.stk k ∈ s'.stk := nth_mem (by omega)
      have hlast : s'.stk.getLastD 0 = nth s'.stk k := by
        rw [List.getLastD_eq_getLast?, List.getLast?_eq_getElem?, show s'.stk.length - 1 = k by omega]
        rfl
      have hdrop : s'.stk.take k = s'.stk.dropLast := by rw [List.dropLast_eq_take]; congr 1; omega
      have hlive := hG.ok.sub _ (hG.ok.stk _ hmem)
      have hck := (hcells k (by omega)).1
      obtain ⟨t, ht, _⟩ := live_facts HH.out.wf hlive
      rw [ht] at hck hlive hlast
      have hown := h.own.upto (m := k) (by omega)
      rw [hdrop] at hown
      have hsc : k ≤ sc := by
        obtain ⟨_, _, hv, hle, _⟩ := h.own.arr
        injection hv with _ e2 e3
        omega
      have hM2 := h.stack (w4 := wr) (S' := some ⟨g', 0, none⟩) (sn' := k) (sc' := sc) ⟨rfl, rfl, rfl, Nat.le_refl _, fun _ _ _ => rfl, .inl rfl⟩ hown
      have hb2 := below_set hB h.bb 4 (.slice (some ⟨g', 0, none⟩) k sc)
      have HEC := Lib.hid (eachRef_any _ (HH.out.below hb2) ⟨_, _, _, _, _, _, _, hM2⟩ hG.popped hr hlive)
      have s4 := h.box.soft 4
      have c0 : (wr.setCell ⟨b, 4, none⟩ (.slice (some ⟨g', 0, none⟩) k sc)).cell? ⟨b, 0, none⟩ = some (.slice A n c) := hM2.box.cell 0
      have c1 : (wr.setCell ⟨b, 4, none⟩ (.slice (some ⟨g', 0, none⟩) k sc)).cell? ⟨b, 1, none⟩ = some (.map (some g)) := hM2.box.cell 1
      have c2 : (wr.setCell ⟨b, 4, none⟩ (.slice (some ⟨g', 0, none⟩) k sc)).cell? ⟨b, 2, none⟩ = some (.slice L (livesI zs).length lc) := hM2.box.cell 2
      obtain ⟨D, hrD, hD2⟩ := run_upto (P := Try.prog) Try.underlying23 int_size (some ⟨g', 0, none⟩) sn sc k (k : Int) rfl hsc
      rw [hD2 g' 0 rfl] at hrD
      clear D hD2
      have HP : Hid (pop1 (nxOf zs) room s' = mkL room { s' with stk := s'.stk.dropLast } (named zs t)) := by
        show _ = _
        unfold pop1 nxOf
        rw [hlast, Int.toNat_natCast]
      rw [← HP.out] at HEC
      have HJN : Hid (∀ w', Mk zs B b room A n c g L lc (pop1 (nxOf zs) room s') ps w' → Below B (wr.setCell ⟨b, 4, none⟩ (.slice (some ⟨g', 0, none⟩) k sc)) w' → ∃ m, DrainJ zs B b room A n c g L lc s ps w m w' ∧ m < μ wr) := fun w' hm hb => by
        obtain ⟨p1, p2⟩ := pop1_ok (room := room) HCL.out hG.ok h0
        refine ⟨_, ⟨pop1 (nxOf zs) room s', hm, ?_, ?_, hb2.trans hb, rfl⟩, by omega⟩
        · rw [HP.out]
          exact hG.popped.mkL (named_sub HH.out.wf HH.out.ok hlive)
        · rw [← drain_step HLL.out HCL.out hG.ok h0]; exact hD
      have q1 : (sn : Int) - 1 = k := by omega
      have q2 : IntKind.i64.wrap (k : Int) = k := IntWalk.i64_in _ (by have := hG.fits; omega)
      have q3 : k < sn := by omega
      have q4 : ¬ sn = 0 := by omega
      have q5 : (0 : Int) < (sn : Int) := by omega
      clear h hG hD hB hmu hsn hkk hpos hcells hmem hlast hdrop hlive hown hsc hM2 hb2 h0 ht HP
      obtain ⟨ln, hln⟩ : ∃ q, (livesI zs).length = q := ⟨_, rfl⟩
      rw [hln] at c2 HEC
      clear hln
      go_wp2_with fail
      refine HEC.out.mono ?_
      rintro e w3 ⟨rfl, hm3, hb3⟩
      obtain ⟨m, hJ, hlt⟩ := HJN.out w3 hm3 hb3
      have HJ := Lib.hid hJ
      have HLT := Lib.hid hlt
      clear hm3 hb3 hJ hlt HJN HEC c0 c1 c2 d4 hck hrD
      go_wp2
      go_roundw
      case rel => exact ⟨m, HJ.out⟩
      case measure => exact Nat.lt_of_le_of_lt ((HMU.out w3 ⟨m, HJ.out⟩).2 m HJ.out) HLT.out
theorem sweep_snoc {nx : Int → List Int} {room : Nat} {s : MS} {x : Int} {l : List Int} : sweep nx room s (l ++ [x]) = visit nx room (sweep nx room s l) x := by unfold sweep; rw [List.foldl_append]; rfl
theorem take_nth {l : List Int} {k : Nat} (h : k < l.length) : l.take (k + 1) = l.take k ++ [nth l k] := by rw [List.take_succ_eq_append_getElem h, nth_get _ _ h]
set_option maxRecDepth 8000 in
set_option maxHeartbeats 2000000 in
theorem pass_any {zs : List Int} {B b room n c g lc ps : Nat} {A L : Option Addr} {s : MS} (w : World) (hH : Hp zs B A n c g L w) (hM : Mk zs B b room A n c g L lc s ps w) (hk : MG (livesI zs) room s) (hr : room ≤ 256) (hps : ps ≤ 1000) :
    Calls Try.prog 91 #[.pointer (some ⟨b, 0, none⟩)] w fun e w' => e = .returned (.tuple #[]) ∧ Mk zs B b room A n c g L lc (sweep (nxOf zs) room { s with over := false } (livesI zs)) (ps + 1) w' ∧ Below B w w' := by
  obtain ⟨hl, h256⟩ := hH.len
  obtain ⟨Am, nm, cm, ms, S, sn, sc, h⟩ := hM
  have d6 : w.cell? ⟨b, 6, none⟩ = some (.bool s.over) := h.box.cell 6
  have s6 := h.box.soft 6
  have h1 := h.cell (j := 6) (d := .bool false) (s' := { s with over := false }) (ps' := ps) rfl rfl rfl
  have d7 : (w.setCell ⟨b, 6, none⟩ (.bool false)).cell? ⟨b, 7, none⟩ = some (.int .i64 ps) := h1.box.cell 7
  have s7 := h1.box.soft 7
  have h2 := h1.cell (j := 7) (d := .int .i64 ((ps : Int) + 1)) (s' := { s with over := false }) (ps' := ps + 1) rfl rfl rfl
  have d2 : ((w.setCell ⟨b, 6, none⟩ (.bool false)).setCell ⟨b, 7, none⟩ (.int .i64 ((ps : Int) + 1))).cell? ⟨b, 2, none⟩ = some (.slice L (livesI zs).length lc) := h2.box.cell 2
  have HM2 : Hid (Mk zs B b room A n c g L lc { s with over := false } (ps + 1) ((w.setCell ⟨b, 6, none⟩ (.bool false)).setCell ⟨b, 7, none⟩ (.int .i64 ((ps : Int) + 1)))) := ⟨_, _, _, _, _, _, _, h2⟩
  have HB2 := Lib.hid (below_set (below_set (Below.refl B w) h.bb 6 (.bool false)) h.bb 7 (.int .i64 ((ps : Int) + 1)))
  have HH := Lib.hid hH
  have HLL := Lib.hid (lives_len (zs := zs) (by omega))
  have HG0 : Hid (MG (livesI zs) room { s with over := false }) := ⟨⟨hk.ok.nodup, hk.ok.sub, hk.ok.stk, hk.ok.snod⟩, hk.fits, hk.deep⟩
  clear h h1 h2 hH hk
  obtain ⟨ln, hln⟩ : ∃ q, (livesI zs).length = q := ⟨_, rfl⟩
  rw [hln] at d2
  have hln2 : ln ≤ 256 := by rw [← hln]; exact HLL.out
  have HLN := Lib.hid hln
  clear hln
  go_enter Try.func91, Try.ntmps91
  go_wp2_with fail
  clear d6 s6 d7 s7 d2
  generalize ((w.setCell ⟨b, 6, none⟩ (.bool false)).setCell ⟨b, 7, none⟩ (.int .i64 ((ps : Int) + 1))) = W2 at *
  generalize hs0 : ({ s with over := false } : MS) = s0 at *
  have HS0 := Lib.hid hs0
  clear hs0
  go_loopw [20] (fun i wr => ∃ k : Nat, k ≤ ln ∧ i = .int .i64 k ∧ Hid (Mk zs B b room A n c g L lc (sweep (nxOf zs) room s0 ((livesI zs).take k)) (ps + 1) wr) ∧ Hid (Below B w wr)) (fun i _ => ln - (intOf i).toNat)
  case atStart => exact ⟨0, Nat.zero_le _, rfl, HM2.out, HB2.out⟩
  case round =>
    obtain ⟨k, hk, rfl, HMk, HBk⟩ := hrel
    clear HM2 HB2
    by_cases hlt : k < ln
    · have hkl : k < (livesI zs).length := by rw [HLN.out]; exact hlt
      have hmem : nth (livesI zs) k ∈ livesI zs := nth_mem hkl
      have HTK := Lib.hid (take_nth hkl)
      have HG : Hid (MG (livesI zs) room (sweep (nxOf zs) room s0 ((livesI zs).take k))) := HG0.out.sweep HLL.out HH.out.closed fun x hx => List.mem_of_mem_take hx
      obtain ⟨b', off, rfl, _, hcs⟩ := (HH.out.below HBk.out).lives.2.2 (by omega)
      have hc := hcs k hkl
      obtain ⟨t, ht, _⟩ := live_facts HH.out.wf hmem
      rw [ht] at hc hmem HTK
      have HMM := Lib.hid (marked_any wr (HH.out.below HBk.out) HMk.out HG.out.ok.sub hmem)
      have HME := Lib.hid hmem
      clear hcs ht hmem hkl
      obtain ⟨s1, hs1⟩ : ∃ s1, sweep (nxOf zs) room s0 ((livesI zs).take k) = s1 := ⟨_, rfl⟩
      rw [hs1] at HMk HG HMM
      have HS : Hid (sweep (nxOf zs) room s0 ((livesI zs).take (k + 1)) = visit (nxOf zs) room s1 (t : Int)) := by
        show _ = _
        rw [HTK.out, sweep_snoc, hs1]
      clear hs1 HTK
      by_cases hin : (t : Int) ∈ s1.on
      · rw [show decide ((t : Int) ∈ s1.on) = true by simpa using hin] at HMM
        have HV : Hid (visit (nxOf zs) room s1 (t : Int) = drain (nxOf zs) room (mkL room s1 (named zs t))) := by
          show _ = _
          unfold visit
          rw [if_pos hin]
          unfold nxOf
          rw [Int.toNat_natCast]
        clear hin
        go_wp2_with fail
        refine HMM.out.mono ?_
        rintro e w3 ⟨rfl, q, rfl⟩
        have HM3 := Lib.hid (HMk.out.next (w' := wr.drewN q) (below_drewN (Below.refl _ _) q))
        have HB3 : Hid (Below B w (wr.drewN q)) := below_drewN HBk.out q
        clear HMk HBk HMM hc
        generalize wr.drewN q = W3 at *
        have HE := Lib.hid (eachRef_any W3 (HH.out.below HB3.out) HM3.out HG.out hr HME.out)
        obtain ⟨_, _, _, _, _, _, _, h3⟩ := HM3.out
        have c0 : W3.cell? ⟨b, 0, none⟩ = some (.slice A n c) := h3.box.cell 0
        have c1 : W3.cell? ⟨b, 1, none⟩ = some (.map (some g)) := h3.box.cell 1
        have c2 : W3.cell? ⟨b, 2, none⟩ = some (.slice (some ⟨b', off, none⟩) (livesI zs).length lc) := h3.box.cell 2
        rw [HLN.out] at c2 HE
        clear h3 HM3
        go_wp2_with fail
        refine HE.out.mono ?_
        rintro e w4 ⟨rfl, hm4, hb4⟩
        have HD := Lib.hid (drain_any w4 (HH.out.below (HB3.out.trans hb4)) hm4 (HG.out.mkL (named_sub HH.out.wf HH.out.ok HME.out)) hr)
        have HB4 := Lib.hid (HB3.out.trans hb4)
        clear hm4 hb4 HE HB3 c0 c1 c2
        go_wp2_with fail
        refine HD.out.mono ?_
        rintro e w5 ⟨rfl, hm5, hb5⟩
        have HM5 : Hid (Mk zs B b room A n c g (some ⟨b', off, none⟩) lc (sweep (nxOf zs) room s0 ((livesI zs).take (k + 1))) (ps + 1) w5) := by
          show Mk _ _ _ _ _ _ _ _ _ _ _ _ _
          rw [HS.out, HV.out]; exact hm5
        have HB5 := Lib.hid (HB4.out.trans hb5)
        clear hm5 hb5 HD HB4
        go_wp2
        go_roundw
        case rel => exact ⟨k + 1, by omega, by go_num, HM5.out, HB5.out⟩
        case measure => simp [intOf]; omega
      · rw [show decide ((t : Int) ∈ s1.on) = false by simpa using hin] at HMM
        have HV : Hid (visit (nxOf zs) room s1 (t : Int) = s1) := by
          show _ = _
          unfold visit
          rw [if_neg hin]
        clear hin
        go_wp2_with fail
        refine HMM.out.mono ?_
        rintro e w3 ⟨rfl, q, rfl⟩
        have HM5 : Hid (Mk zs B b room A n c g (some ⟨b', off, none⟩) lc (sweep (nxOf zs) room s0 ((livesI zs).take (k + 1))) (ps + 1) (wr.drewN q)) := by
          show Mk _ _ _ _ _ _ _ _ _ _ _ _ _
          rw [HS.out, HV.out]; exact HMk.out.next (below_drewN (Below.refl _ _) q)
        have HB5 : Hid (Below B w (wr.drewN q)) := below_drewN HBk.out q
        clear HMk HBk HMM hc
        go_wp2
        go_roundw
        case rel => exact ⟨k + 1, by omega, by go_num, HM5.out, HB5.out⟩
        case measure => simp [intOf]; omega
    · obtain rfl : k = ln := by omega
      have HL : Hid ((livesI zs).take k = livesI zs) := by
        show _ = _
        rw [List.take_of_length_le (by rw [HLN.out]; exact Nat.le_refl _)]
      rw [HL.out] at HMk
      clear HL
      go_wp2
      refine bodyPost_end (v := .tuple #[]) (by simp [results, Try.results91, go_sem]) rfl ⟨rfl, by rw [HS0.out]; exact HMk.out, HBk.out⟩
/-- What holds between the passes; 'm' is what is left to do. -/
def MarkJ (zs : List Int) (B b room : Nat) (A : Option Addr) (n c g : Nat) (L : Option Addr) (lc : Nat) (fr : List Int) (w : World) (m : Nat) (wr : World) : Prop :=
  ∃ s' p, Mk zs B b room A n c g L lc s' p wr ∧ MG (livesI zs) room s' ∧ Between (nxOf zs) (livesI zs) fr s' p ∧ passF (nxOf zs) room (livesI zs) 300 s' p = marking (nxOf zs) room (livesI zs) fr ∧ Below B w wr ∧ (if s'.over = true then (livesI zs).length - s'.on.length + 1 else 0) = m
/-- What markAll answers. -/
def MarkAllP (zs : List Int) (room : Nat) (A : Option Addr) (n c g : Nat) (L : Option Addr) (lc : Nat) (fr : List Int) (w : World) (e : Ending) (w' : World) : Prop :=
  ∃ b, e = .returned (.pointer (some ⟨b, 0, none⟩)) ∧ Mk zs w.heap.size b room A n c g L lc (marking (nxOf zs) room (livesI zs) fr).1 (marking (nxOf zs) room (livesI zs) fr).2 w' ∧ Below w.heap.size w w'
theorem begun_MG {zs fr : List Int} {room : Nat} (hf : ∀ x ∈ fr, x ∈ livesI zs) : MG (livesI zs) room (mkL room ⟨[], [], false, 0⟩ fr) :=
  MG.mkL ⟨⟨List.nodup_nil, by simp, by simp, List.nodup_nil⟩, Nat.zero_le _, Nat.zero_le _⟩ fun x hx => .inr (hf x hx)
set_option maxRecDepth 8000 in
set_option maxHeartbeats 2000000 in
theorem markAll_any {zs fr : List Int} {room n c g lc nf cf : Nat} {A L F : Option Addr} (w : World) (hH : Hp zs w.heap.size A n c g L w) (hnf : nf ≤ maxLen) (hfr : Arr .i64 w w.heap.size F nf fr) (hf : ∀ x ∈ fr, x ∈ livesI zs) (hr : room ≤ 256) :
    Calls Try.prog 60 #[.agg #[.slice A n c, .map (some g), .slice L (livesI zs).length lc], .slice F nf cf, .int .i64 room] w (MarkAllP zs room A n c g L lc fr w) := by
  unfold maxLen at hnf
  obtain ⟨hl, h256⟩ := hH.len
  have hb0 := (Below.refl _ w).alloc (Nat.le_refl _) (.cells #[.slice A n c, .map (some g), .slice L (livesI zs).length lc] 106)
  have HB0 := Lib.hid hb0
  have BX := Lib.hid (Box.new w 106 #[.slice A n c, .map (some g), .slice L (livesI zs).length lc])
  have HN := Lib.hid (fun w => spotNew_any n w h256)
  have HH := Lib.hid hH
  have HFR := Lib.hid hfr
  have HF := Lib.hid hf
  have HCL := Lib.hid hH.closed
  have HLL := Lib.hid (lives_len (zs := zs) (by omega))
  have HZ := Lib.hid hl
  clear hb0 hH hfr hf hl
  obtain ⟨ln, hln⟩ : ∃ q, (livesI zs).length = q := ⟨_, rfl⟩
  rw [hln] at BX HB0 ⊢
  have HLN := Lib.hid hln
  clear hln
  go_enter Try.func60, Try.ntmps60
  have c0 : (w.alloc (.cells #[.slice A n c, .map (some g), .slice L ln lc] 106)).cell? ⟨w.heap.size, 0, none⟩ = some (.slice A n c) := BX.out.cell 0
  go_wp2_with fail
  refine (HN.out _).mono ?_
  rintro e w1 ⟨Am, cm, rfl, ha1, hi1, b1⟩
  have BX1 := BX.out.below b1 BX.out.lt
  have HB1 := Lib.hid (HB0.out.trans (b1.mono HB0.out.size))
  have e0 : w1.cell? ⟨w.heap.size, 0, none⟩ = some (.slice A n c) := BX1.cell 0
  have e1 : w1.cell? ⟨w.heap.size, 1, none⟩ = some (.map (some g)) := BX1.cell 1
  have e2 : w1.cell? ⟨w.heap.size, 2, none⟩ = some (.slice L ln lc) := BX1.cell 2
  have HA1 := Lib.hid ha1
  have HI1 := Lib.hid (hi1.less (lo' := w.heap.size) HB0.out.size)
  clear ha1 hi1 b1 c0 BX BX1 HB0 HN
  obtain ⟨nm, hnm⟩ : ∃ q, (n + 63) / 64 = q := ⟨_, rfl⟩
  rw [hnm] at HA1 HI1 ⊢
  have HNM := Lib.hid hnm
  clear hnm
  go_wp2_with fail
  have hM0 : Mk zs w.heap.size w1.heap.size room A n c g L lc ⟨[], [], false, 0⟩ 0 (w1.alloc (.cells #[.slice A n c, .map (some g), .slice L ln lc, .slice Am nm cm, .slice none 0 0, .int .i64 room, .bool false, .int .i64 0, .int .i64 0] 113)) := by
    refine ⟨Am, nm, cm, List.replicate nm 0, none, 0, 0, ?_, ?_, ?_, ?_, Own.nil, by simp [Value.ownBlock], ?_, HB1.out.size, HI1.out⟩
    · unfold mkC; rw [HLN.out]; exact Box.new _ _ _
    · exact (HA1.out.below ((Below.refl _ w1).alloc (Nat.le_refl _) _) (Nat.le_refl _)).more (by simp)
    · intro b' off hn hA e
      obtain ⟨b2, off2, e3, hb, _⟩ := HA1.out.2.2 hn
      rw [hA] at e3
      injection e3 with e3
      injection e3 with e3
      injection e with e
      omega
    · intro b' off _ _; simp [Value.ownBlock]
    · rw [← HNM.out, ← HZ.out]; exact OnMarks.none (by have := HZ.out; omega)
  have HM0 := Lib.hid hM0
  have HB2 := Lib.hid (HB1.out.alloc HB1.out.size (.cells #[.slice A n c, .map (some g), .slice L ln lc, .slice Am nm cm, .slice none 0 0, .int .i64 room, .bool false, .int .i64 0, .int .i64 0] 113))
  clear hM0 HA1 HB1 e0 e1 e2
  generalize (w1.alloc (.cells #[.slice A n c, .map (some g), .slice L ln lc, .slice Am nm cm, .slice none 0 0, .int .i64 room, .bool false, .int .i64 0, .int .i64 0] 113)) = W2 at *
  obtain ⟨b, hb⟩ : ∃ b, w1.heap.size = b := ⟨_, rfl⟩
  rw [hb] at HM0 ⊢
  clear hb
  go_loopw [26] (fun i wr => ∃ k : Nat, k ≤ nf ∧ i = .int .i64 k ∧ Hid (Mk zs w.heap.size b room A n c g L lc (mkL room ⟨[], [], false, 0⟩ (fr.take k)) 0 wr) ∧ Hid (Below w.heap.size w wr)) (fun i _ => nf - (intOf i).toNat)
  case atStart => exact ⟨0, Nat.zero_le _, rfl, HM0.out, HB2.out⟩
  case round =>
    obtain ⟨k, hk, rfl, HMk, HBk⟩ := hrel
    clear HM0 HB2
    by_cases hlt : k < nf
    · have hfl := HFR.out.1
      have hmem := HF.out (nth fr k) (nth_mem (by omega))
      have HTK := Lib.hid (take_nth (l := fr) (k := k) (by omega))
      obtain ⟨b', off, rfl, _, hcs⟩ := (HFR.out.below HBk.out (Nat.le_refl _)).2.2 (by omega)
      have hc := hcs k hlt
      have HG : Hid (MG (livesI zs) room (mkL room ⟨[], [], false, 0⟩ (fr.take k))) := begun_MG fun x hx => HF.out x (List.mem_of_mem_take hx)
      have HC := Lib.hid (mark_any wr (HH.out.below HBk.out) HMk.out HG.out.ok HG.out.fits hr HG.out.deep hmem)
      rw [← mkL_snoc, ← HTK.out] at HC
      clear hcs hmem hfl HG HTK HMk
      generalize nth fr k = X at *
      go_wp2_with fail
      refine HC.out.mono ?_
      rintro e w3 ⟨rfl, hm3, hb3⟩
      have HM3 := Lib.hid hm3
      have HB3 := Lib.hid (HBk.out.trans hb3)
      clear hm3 hb3 HC HBk
      go_wp2
      go_roundw
      case rel => exact ⟨k + 1, by omega, by go_num, HM3.out, HB3.out⟩
      case measure => simp [intOf]; omega
    · obtain rfl : k = nf := by omega
      have HL : Hid (fr.take k = fr) := by
        show _ = _
        rw [List.take_of_length_le (by rw [HFR.out.1]; exact Nat.le_refl _)]
      rw [HL.out] at HMk
      have HD := Lib.hid (drain_any wr (HH.out.below HBk.out) HMk.out (begun_MG HF.out) hr)
      clear HL HMk
      go_wp2_with fail
      refine HD.out.mono ?_
      rintro e w3 ⟨rfl, hm3, hb3⟩
      obtain ⟨μ, hμ⟩ := least_fn (MarkJ zs w.heap.size b room A n c g L lc fr w)
      have HMU := Lib.hid hμ
      have HJ0 : Hid (∃ m, MarkJ zs w.heap.size b room A n c g L lc fr w m w3) := ⟨_, begun (nxOf zs) room fr, 0, hm3, (begun_MG HF.out).drain HLL.out HCL.out, begun_between HLL.out HCL.out HF.out lives_pos, rfl, HBk.out.trans hb3, rfl⟩
      clear hμ hm3 hb3 HD HBk
      go_wp2_with fail
      go_loopw [39] (fun _ wr => Hid (∃ m, MarkJ zs w.heap.size b room A n c g L lc fr w m wr)) (fun _ wr => μ wr)
      case atStart => exact HJ0
      case round =>
        clear HJ0
        obtain ⟨s', p, hM, hG, hB, hP, hBw, hmu⟩ := (HMU.out wr hrel.out).1
        have HMp := Lib.hid hM
        obtain ⟨_, _, _, _, _, _, _, h⟩ := hM
        have d6 : wr.cell? ⟨b, 6, none⟩ = some (.bool s'.over) := h.box.cell 6
        clear h
        cases ho : s'.over
        · rw [ho] at d6
          rw [passF_off ho] at hP
          have HE : Hid (Mk zs w.heap.size b room A n c g L lc (marking (nxOf zs) room (livesI zs) fr).1 (marking (nxOf zs) room (livesI zs) fr).2 wr) := by
            show Mk _ _ _ _ _ _ _ _ _ _ _ _ _
            rw [← hP]; exact HMp.out
          have HBw := Lib.hid hBw
          clear hG hB hP hBw hmu ho HMp hrel
          go_wp2
          go_ret
          exact ⟨b, rfl, HE.out, HBw.out⟩
        · rw [ho] at d6
          have hp := Nat.le_trans hB.some hG.ok.len
          have HC := Lib.hid (pass_any wr (HH.out.below hBw) HMp.out hG hr (by have := HLL.out; omega))
          have HJN : Hid (∀ w', Mk zs w.heap.size b room A n c g L lc (sweep (nxOf zs) room { s' with over := false } (livesI zs)) (p + 1) w' → Below w.heap.size wr w' → ∃ m, MarkJ zs w.heap.size b room A n c g L lc fr w m w' ∧ m < μ wr) := fun w' hm hb => by
            obtain ⟨p1, p2⟩ := sweep_between (room := room) HLL.out HCL.out hB ho
            refine ⟨_, ⟨_, p + 1, hm, ?_, p1, ?_, hBw.trans hb, rfl⟩, ?_⟩
            · exact MG.sweep HLL.out HCL.out ⟨⟨hG.ok.nodup, hG.ok.sub, hG.ok.stk, hG.ok.snod⟩, hG.fits, hG.deep⟩ fun x hx => hx
            · rw [← pass_step HLL.out HCL.out hB ho]; exact hP
            · rw [if_pos ho] at hmu
              split
              · rename_i h1
                have h2 := p2 h1
                have h3 := p1.rest.1.len
                omega
              · omega
          clear hG hB hP hBw hmu ho HMp hrel hp
          go_wp2_with fail
          refine HC.out.mono ?_
          rintro e w4 ⟨rfl, hm4, hb4⟩
          obtain ⟨m, hJ, hlt⟩ := HJN.out w4 hm4 hb4
          have HJ := Lib.hid hJ
          have HLT := Lib.hid hlt
          clear hm4 hb4 hJ hlt HJN HC d6
          go_wp2
          go_roundw
          case rel => exact ⟨m, HJ.out⟩
          case measure => exact Nat.lt_of_le_of_lt ((HMU.out w4 ⟨m, HJ.out⟩).2 m HJ.out) HLT.out
/-- What is marked with room for all. -/
def onL (zs fr : List Int) : List Int := (marking (nxOf zs) 256 (livesI zs) fr).1.on
/-- What is reached, in order. -/
def reachL (zs fr : List Int) : List Int := (livesI zs).filter fun x => decide (x ∈ onL zs fr)
section
variable {zs fr : List Int}
theorem marks_on {room : Nat} (hz : ∀ z ∈ zs, (Lit.int .u64 z).wf = true) (h : fromE zs fr = 0) : (∀ x, x ∈ (marking (nxOf zs) room (livesI zs) fr).1.on ↔ Reach (nxOf zs) fr x) ∧ (marking (nxOf zs) room (livesI zs) fr).1.on.Nodup ∧ (∀ x ∈ (marking (nxOf zs) room (livesI zs) fr).1.on, x ∈ livesI zs) ∧ (marking (nxOf zs) room (livesI zs) fr).2 ≤ (marking (nxOf zs) room (livesI zs) fr).1.on.length := by
  obtain ⟨h1, h2⟩ := fromE_zero h
  exact marking_tells (lives_len (arena_len h1)) (lives_closed hz h1) h2 lives_pos
theorem reachL_mem (hz : ∀ z ∈ zs, (Lit.int .u64 z).wf = true) (h : fromE zs fr = 0) {x : Int} : x ∈ reachL zs fr ↔ Reach (nxOf zs) fr x := by
  obtain ⟨h1, _, h3, _⟩ := marks_on (room := 256) hz h
  unfold reachL onL
  rw [List.mem_filter, decide_eq_true_eq, h1]
  exact ⟨fun h => h.2, fun h => ⟨h3 x ((h1 x).2 h), h⟩⟩
theorem reachL_lives : ∀ x ∈ reachL zs fr, x ∈ livesI zs := fun _ hx => (List.mem_filter.1 hx).1
theorem reachL_rise : (reachL zs fr).Pairwise (· < ·) := List.Pairwise.filter _ lives_rise
theorem reachL_len (h : zs.length ≤ 256) : (reachL zs fr).length ≤ 256 := Nat.le_trans (List.length_filter_le _ _) (lives_len h)
end
/-- How many words it takes. -/
def takesN (zs fr : List Int) : Nat := cnt (coversN zs ((reachL zs fr).map Int.toNat)) 0 zs.length
/-- What Reach answers. -/
def ReachP (zs fr : List Int) (w : World) (e : Ending) (w' : World) : Prop := ∃ A k c, e = .returned (.tuple #[.slice A k c, .int .i64 (fromE zs fr)]) ∧ Below w.heap.size w w' ∧ ((fromE zs fr ≠ 0 ∧ k = 0) ∨ (fromE zs fr = 0 ∧ k = (reachL zs fr).length ∧ Arr .i64 w' w'.heap.size A k (reachL zs fr)))
/-- .., its memory up to the capacity. -/
def ReachF (zs fr : List Int) (w : World) (e : Ending) (w' : World) : Prop := ∃ A k c, e = .returned (.tuple #[.slice A k c, .int .i64 (fromE zs fr)]) ∧ Below w.heap.size w w' ∧ k ≤ c ∧ SpareI .i64 3 w.heap.size w' A c ∧ ((fromE zs fr ≠ 0 ∧ k = 0) ∨ (fromE zs fr = 0 ∧ k = (reachL zs fr).length ∧ Arr .i64 w' w'.heap.size A k (reachL zs fr)))
/-- What read leaves is a heap for the marker. -/
theorem hp_read {zs fr : List Int} {A S : Option Addr} {n c b : Nat} {w w1 W : World} (ha : Arr .u64 w w.heap.size A n zs) (hnc : n ≤ c) (h : fromE zs fr = 0) (hb1 : Below w.heap.size w w1) (hm : MapV Try.prog .i64 3 w1 b 300 (hdOf zs)) (hs : Arr .i64 w1 w1.heap.size S (livesI zs).length (livesI zs)) (hW : Below w1.heap.size w1 W) : Hp zs W.heap.size A n c b S W :=
  ⟨((ha.below hb1 (Nat.le_refl _)).below hW hb1.size).more (Nat.le_trans hb1.size hW.size), hm.below hW hm.lt, Nat.lt_of_lt_of_le hm.lt hW.size, (hs.below hW (Nat.le_refl _)).more hW.size, (fromE_zero h).1, hnc⟩
set_option maxRecDepth 8000 in
set_option maxHeartbeats 1000000 in
theorem reach_bad (A F : Option Addr) (n c nf cf : Nat) (zs fr : List Int) (w : World) (hn : n ≤ maxLen) (hnc : n ≤ c) (ha : Arr .u64 w w.heap.size A n zs) (hnf : nf ≤ maxLen) (hfr : Arr .i64 w w.heap.size F nf fr) (h : fromE zs fr ≠ 0) :
    Calls Try.prog 52 #[.slice A n c, .slice F nf cf] w (ReachF zs fr w) := by
  have HR := Lib.hid (tread_any A F n c nf cf zs fr w hn hnc ha hnf hfr)
  have HE := Lib.hid h
  have hb : (fromE zs fr != 0) = true := by simpa using h
  clear ha hfr hnf hn hnc h
  go_enter Try.func52, Try.ntmps52
  go_wp2_with fail
  refine HR.out.mono ?_
  rintro e w1 ⟨b1, h⟩
  rcases h with ⟨_, rfl⟩ | ⟨h0, _⟩
  · have HB := Lib.hid (b1.alloc b1.size (.cells #[.slice none 0 0, .map none, .slice none 0 0] 106))
    unfold heapZ
    clear b1 HR
    go_wp2
    go_ret2
    first | exact ⟨_, _, _, rfl, HB.out, Nat.le_refl _, SpareI.nil, .inl ⟨HE.out, rfl⟩⟩ | exact ⟨0, rfl, HB.out, .inl ⟨HE.out, rfl⟩⟩
  · exact absurd h0 HE.out
theorem filter_snoc {l : List Int} {p : Int → Bool} {x : Int} : (l ++ [x]).filter p = l.filter p ++ (if p x = true then [x] else []) := by
  rw [List.filter_append]
  congr 1
  cases h : p x <;> simp [h]
set_option maxRecDepth 8000 in
set_option maxHeartbeats 2000000 in
theorem reach_good (A F : Option Addr) (n c nf cf : Nat) (zs fr : List Int) (w : World) (hn : n ≤ maxLen) (hnc : n ≤ c) (ha : Arr .u64 w w.heap.size A n zs) (hnf : nf ≤ maxLen) (hfr : Arr .i64 w w.heap.size F nf fr) (h : fromE zs fr = 0) :
    Calls Try.prog 52 #[.slice A n c, .slice F nf cf] w (ReachF zs fr w) := by
  have HR := Lib.hid (tread_any A F n c nf cf zs fr w hn hnc ha hnf hfr)
  have HE := Lib.hid h
  have HA := Lib.hid ha
  have HF := Lib.hid hfr
  have HON := Lib.hid (marks_on (room := 256) ha.2.1 h)
  have HNF := Lib.hid hnf
  have hl256 := lives_len (zs := zs) (arena_len (fromE_zero h).1)
  clear ha hfr hnf hn h
  go_enter Try.func52, Try.ntmps52
  go_wp2_with fail
  refine HR.out.mono ?_
  rintro e w1 ⟨b1, h⟩
  rcases h with ⟨h0, _⟩ | ⟨_, g, S, sc, rfl, hm, _, hs⟩
  · exact absurd HE.out h0
  · have b2 := (Below.refl _ w1).alloc (Nat.le_refl _) (.cells #[.slice A n c, .map (some g), .slice S (livesI zs).length sc] 106)
    have hH := hp_read HA.out hnc HE.out b1 hm hs b2
    have bw := b1.trans (b2.mono b1.size)
    have HC := Lib.hid (markAll_any (cf := cf) (lc := sc) _ hH HNF.out ((HF.out.below bw (Nat.le_refl _)).more bw.size) (fromE_zero HE.out).2 (room := 256) (Nat.le_refl _))
    have bx := Box.new w1 106 #[.slice A n c, .map (some g), .slice S (livesI zs).length sc]
    have HHP := Lib.hid hH
    have HBW := Lib.hid bw
    clear hm hs hH b1 b2 bw HR
    obtain ⟨ln, hln⟩ : ∃ q, (livesI zs).length = q := ⟨_, rfl⟩
    rw [hln] at HC bx HHP HBW hl256 ⊢
    have HLN := Lib.hid hln
    clear hln
    have c0 : (w1.alloc (.cells #[.slice A n c, .map (some g), .slice S ln sc] 106)).cell? ⟨w1.heap.size, 0, none⟩ = some (.slice A n c) := bx.cell 0
    have c1 : (w1.alloc (.cells #[.slice A n c, .map (some g), .slice S ln sc] 106)).cell? ⟨w1.heap.size, 1, none⟩ = some (.map (some g)) := bx.cell 1
    have c2 : (w1.alloc (.cells #[.slice A n c, .map (some g), .slice S ln sc] 106)).cell? ⟨w1.heap.size, 2, none⟩ = some (.slice S ln sc) := bx.cell 2
    clear bx
    go_wp2_with fail
    refine HC.out.mono ?_
    rintro e w3 ⟨b, rfl, hM, hb3⟩
    have HM := Lib.hid hM
    have HB3 := Lib.hid (HBW.out.trans (hb3.mono HBW.out.size))
    have HH3 := Lib.hid (HHP.out.below hb3)
    obtain ⟨_, _, _, _, _, _, _, h3⟩ := hM
    have e2 : w3.cell? ⟨b, 2, none⟩ = some (.slice S (livesI zs).length sc) := h3.box.cell 2
    rw [HLN.out] at e2
    clear h3 hb3 HC HHP HBW c0 c1 c2
    go_wp2_with fail
    go_loopw [9, 30] (fun v i wr => ∃ k : Nat, k ≤ ln ∧ i = .int .i64 k ∧ Hid (OwnF .i64 3 wr w3.heap.size v (((livesI zs).take k).filter fun x => decide (x ∈ onL zs fr))) ∧ Hid (Below w3.heap.size w3 wr)) (fun _ i _ => ln - (intOf i).toNat)
    case atStart => exact ⟨0, Nat.zero_le _, rfl, OwnF.nil, Below.refl _ _⟩
    case round =>
      obtain ⟨k, hk, rfl, HO, HBk⟩ := hrel
      clear e2
      by_cases hlt : k < ln
      · have hkl : k < (livesI zs).length := by rw [HLN.out]; exact hlt
        have hmem : nth (livesI zs) k ∈ livesI zs := nth_mem hkl
        have HTK : Hid (((livesI zs).take (k + 1)).filter (fun x => decide (x ∈ onL zs fr)) = ((livesI zs).take k).filter (fun x => decide (x ∈ onL zs fr)) ++ (if decide (nth (livesI zs) k ∈ onL zs fr) = true then [nth (livesI zs) k] else [])) := by
          show _ = _
          rw [take_nth hkl, filter_snoc]
        have hHk := HH3.out.below (HBk.out.mono (by have := HM.out; obtain ⟨_, _, _, _, _, _, _, h⟩ := this; exact Nat.le_trans h.bb (Nat.le_of_lt h.box.lt)))
        obtain ⟨b', off, rfl, _, hcs⟩ := hHk.lives.2.2 (by omega)
        have hc := hcs k hkl
        have hwf := hHk.lives.2.1 _ hmem
        have HMM := Lib.hid (marked_any wr hHk (HM.out.next HBk.out) HON.out.2.2.1 hmem)
        have hfl : (((livesI zs).take k).filter fun x => decide (x ∈ onL zs fr)).length ≤ 256 := Nat.le_trans (List.length_filter_le _ _) (by rw [List.length_take]; omega)
        clear hcs hmem hkl hHk
        generalize nth (livesI zs) k = X at *
        change Hid (Calls Try.prog _ _ _ fun e w' => e = .returned (.bool (decide (X ∈ onL zs fr))) ∧ ∃ q, wr.drewN q = w') at HMM
        by_cases hin : X ∈ onL zs fr
        · rw [show decide (X ∈ onL zs fr) = true by simpa using hin] at HMM HTK
          clear hin
          go_wp2_with fail
          refine HMM.out.mono ?_
          rintro e w4 ⟨rfl, q, rfl⟩
          have hO2 : OwnF .i64 3 (wr.drewN q) w3.heap.size _ (((livesI zs).take k).filter fun x => decide (x ∈ onL zs fr)) := HO.out
          have HB4 : Hid (Below w3.heap.size w3 (wr.drewN q)) := below_drewN HBk.out q
          clear HMM HO HBk hc
          generalize wr.drewN q = W4 at *
          obtain ⟨v', w5, hrun, hO', hG'⟩ := hO2.pushF (P := Try.prog) (t := 23) (ty := 23) Try.underlying23 intI_info (by omega) (x := X) hwf (by omega) HB4.out.size
          have HRN := Lib.hid hrun
          have hB' := hG'.below HB4.out.size hO2.own.row
          have HO5 : Hid (OwnF .i64 3 w5 w3.heap.size v' (((livesI zs).take (k + 1)).filter fun x => decide (x ∈ onL zs fr))) := by
            show OwnF _ _ _ _ _ _
            rw [HTK.out]; exact hO'
          have HB5 := Lib.hid (HB4.out.trans hB')
          clear hrun hO' hB' hG' hO2 HB4 HTK
          go_wp2_with (at_builtin; refine wpList_append_run rfl (.tmp 37) (.tmp 39) 23 rfl rfl rfl HRN.out ?_)
          go_roundw
          case rel => exact ⟨k + 1, by omega, by go_num, HO5.out, HB5.out⟩
          case measure => simp [intOf]; omega
        · rw [show decide (X ∈ onL zs fr) = false by simpa using hin] at HMM HTK
          clear hin
          go_wp2_with fail
          refine HMM.out.mono ?_
          rintro e w4 ⟨rfl, q, rfl⟩
          have hT := HTK.out
          rw [if_neg (by decide), List.append_nil] at hT
          have hO6 := HO.out
          rw [← hT] at hO6
          have HO5 := Lib.hid hO6
          clear hT hO6
          have HB5 : Hid (Below w3.heap.size w3 (wr.drewN q)) := below_drewN HBk.out q
          clear HMM HO HBk hc HTK
          go_wp2
          go_roundw
          case rel => exact ⟨k + 1, by omega, by go_num, HO5.out, HB5.out⟩
          case measure => simp [intOf]; omega
      · obtain rfl : k = ln := by omega
        have HL : Hid (((livesI zs).take k).filter (fun x => decide (x ∈ onL zs fr)) = reachL zs fr) := by
          show _ = _
          rw [List.take_of_length_le (by rw [HLN.out]; exact Nat.le_refl _)]; rfl
        rw [HL.out] at HO
        obtain ⟨A', c', rfl, hcc, hA', hsp⟩ := HO.out.arr
        have HSP := Lib.hid (hsp.less HB3.out.size)
        have HA' := Lib.hid hA'
        have HBE := Lib.hid (HB3.out.trans (HBk.out.mono HB3.out.size))
        clear hA' hsp HO HL HBk
        obtain ⟨m, hm⟩ : ∃ m, (reachL zs fr).length = m := ⟨_, rfl⟩
        rw [hm] at HA' hcc ⊢
        have HMM := Lib.hid hm
        clear hm
        go_wp2
        go_ret2
        exact ⟨A', _, c', by rw [HE.out]; rfl, HBE.out, hcc, HSP.out, .inr ⟨HE.out, HMM.out.symm, HA'.out⟩⟩
theorem reachF_any (A F : Option Addr) (n c nf cf : Nat) (zs fr : List Int) (w : World) (hn : n ≤ maxLen) (hnc : n ≤ c) (ha : Arr .u64 w w.heap.size A n zs) (hnf : nf ≤ maxLen) (hfr : Arr .i64 w w.heap.size F nf fr) :
    Calls Try.prog 52 #[.slice A n c, .slice F nf cf] w (ReachF zs fr w) := by
  by_cases h : fromE zs fr = 0
  · exact reach_good A F n c nf cf zs fr w hn hnc ha hnf hfr h
  · exact reach_bad A F n c nf cf zs fr w hn hnc ha hnf hfr h
theorem Reach_any (A F : Option Addr) (n c nf cf : Nat) (zs fr : List Int) (w : World) (hn : n ≤ maxLen) (hnc : n ≤ c) (ha : Arr .u64 w w.heap.size A n zs) (hnf : nf ≤ maxLen) (hfr : Arr .i64 w w.heap.size F nf fr) :
    Calls Try.prog 52 #[.slice A n c, .slice F nf cf] w (ReachP zs fr w) :=
  (reachF_any A F n c nf cf zs fr w hn hnc ha hnf hfr).mono fun _ _ ⟨A', k, c', h1, h2, _, _, h3⟩ => ⟨A', k, c', h1, h2, h3⟩
end Go.Proofs.Ytjefbekdjgmmbaa
namespace Go.Proofs.Ytjefbekdjgmmbaa
open Go.RowKit
/-- One more object, where it is none that was come to. -/
def addN (out : List Int) (y : Int) : List Int := if y < 0 ∨ y ∈ out then out else out ++ [y]
def addL (out l : List Int) : List Int := l.foldl addN out
/-- The list when the first 'i' objects of it were gone over. -/
def camT (zs fr : List Int) : Nat → List Int
  | 0 => addL [] fr
  | i + 1 => if i < (camT zs fr i).length then addL (camT zs fr i) (nxOf zs (nth (camT zs fr i) i)) else camT zs fr i
/-- The order. -/
def camL (zs fr : List Int) : List Int := camT zs fr zs.length
section
variable {out l : List Int} {y : Int} {k : Nat}
theorem addN_no (h : y < 0 ∨ y ∈ out) : addN out y = out := if_pos h
theorem addN_yes (h : ¬ (y < 0 ∨ y ∈ out)) : addN out y = out ++ [y] := if_neg h
theorem addL_snoc : addL out (l ++ [y]) = addN (addL out l) y := by unfold addL; rw [List.foldl_append]; rfl
theorem addL_take (h : k < l.length) : addL out (l.take (k + 1)) = addN (addL out (l.take k)) (nth l k) := by
  rw [List.take_succ_eq_append_getElem h, addL_snoc, nth_get _ _ h]
theorem addN_len : out.length ≤ (addN out y).length := by
  unfold addN
  split
  · exact Nat.le_refl _
  · simp
theorem addN_nth (h : k < out.length) : nth (addN out y) k = nth out k := by
  unfold addN
  split
  · rfl
  · rw [nth_get _ _ (by simp; omega), nth_get _ _ h, List.getElem_append_left h]
theorem addN_mem {x : Int} : x ∈ addN out y ↔ x ∈ out ∨ (x = y ∧ 0 ≤ y) := by
  unfold addN
  split
  · rename_i h
    constructor
    · exact .inl
    · rintro (h1 | ⟨rfl, h1⟩)
      · exact h1
      · rcases h with h | h
        · omega
        · exact h
  · rename_i h
    rw [List.mem_append, List.mem_singleton]
    constructor
    · rintro (h1 | h1)
      · exact .inl h1
      · exact .inr ⟨h1, by omega⟩
    · rintro (h1 | ⟨h1, _⟩)
      · exact .inl h1
      · exact .inr h1
theorem addL_mem {x : Int} : ∀ {l out : List Int}, x ∈ addL out l ↔ x ∈ out ∨ (x ∈ l ∧ 0 ≤ x)
  | [], out => by show x ∈ out ↔ _; simp
  | y :: l, out => by
    show x ∈ addL (addN out y) l ↔ _
    rw [addL_mem, addN_mem, List.mem_cons]
    constructor
    · rintro ((h | ⟨rfl, h⟩) | ⟨h, h0⟩)
      · exact .inl h
      · exact .inr ⟨.inl rfl, h⟩
      · exact .inr ⟨.inr h, h0⟩
    · rintro (h | ⟨rfl | h, h0⟩)
      · exact .inl (.inl h)
      · exact .inl (.inr ⟨rfl, h0⟩)
      · exact .inr ⟨h, h0⟩
theorem addL_len : ∀ {l out : List Int}, out.length ≤ (addL out l).length
  | [], _ => Nat.le_refl _
  | _ :: _, _ => Nat.le_trans addN_len addL_len
theorem addL_nth : ∀ {l out : List Int}, k < out.length → nth (addL out l) k = nth out k
  | [], _, _ => rfl
  | y :: l, out, h => by
    show nth (addL (addN out y) l) k = _
    rw [addL_nth (Nat.lt_of_lt_of_le h addN_len), addN_nth h]
end
/-- What holds of a list of objects that were come to. -/
structure CamW (zs fr out : List Int) : Prop where
  nd : out.Nodup
  named : ∀ j, j < out.length → nth out j ∈ fr ∨ ∃ k, k < j ∧ nth out j ∈ nxOf zs (nth out k)
  pos : ∀ x ∈ out, 0 ≤ x
section
variable {zs fr out l : List Int} {y : Int} {i j k : Nat}
theorem CamW.nil : CamW zs fr [] := ⟨List.nodup_nil, fun j h => absurd h (by simp), fun x h => by cases h⟩
theorem CamW.add (h : CamW zs fr out) (hy : 0 ≤ y → y ∈ fr ∨ ∃ k, k < out.length ∧ y ∈ nxOf zs (nth out k)) : CamW zs fr (addN out y) := by
  by_cases hc : y < 0 ∨ y ∈ out
  · rw [addN_no hc]; exact h
  · have h0 : 0 ≤ y := by omega
    refine ⟨?_, fun j hj => ?_, fun x hx => ?_⟩
    · rw [addN_yes hc, List.nodup_append]
      refine ⟨h.nd, by simp, fun a ha b hb => ?_⟩
      rw [List.mem_singleton] at hb
      subst hb
      intro e
      subst e
      exact hc (.inr ha)
    · rw [addN_yes hc, List.length_append, List.length_singleton] at hj
      rcases Nat.lt_or_eq_of_le (Nat.le_of_lt_succ hj) with h1 | h1
      · rw [addN_nth h1]
        rcases h.named j h1 with h2 | ⟨k, hk, h2⟩
        · exact .inl h2
        · exact .inr ⟨k, hk, by rw [addN_nth (by omega)]; exact h2⟩
      · subst h1
        have e : nth (addN out y) out.length = y := by
          rw [addN_yes hc, nth_get _ _ (by simp), List.getElem_append_right (by omega)]
          simp
        rw [e]
        rcases hy h0 with h2 | ⟨k, hk, h2⟩
        · exact .inl h2
        · exact .inr ⟨k, hk, by rw [addN_nth hk]; exact h2⟩
    · rcases addN_mem.1 hx with h1 | ⟨rfl, h1⟩
      · exact h.pos x h1
      · exact h1
theorem CamW.adds : ∀ {l out : List Int}, CamW zs fr out → (∀ y ∈ l, 0 ≤ y → y ∈ fr ∨ ∃ k, k < out.length ∧ y ∈ nxOf zs (nth out k)) → CamW zs fr (addL out l)
  | [], _, h, _ => h
  | y :: l, out, h, hy => by
    show CamW zs fr (addL (addN out y) l)
    refine CamW.adds (h.add (hy y List.mem_cons_self)) fun z hz h0 => ?_
    rcases hy z (List.mem_cons_of_mem _ hz) h0 with h2 | ⟨k, hk, h2⟩
    · exact .inl h2
    · exact .inr ⟨k, Nat.lt_of_lt_of_le hk addN_len, by rw [addN_nth hk]; exact h2⟩
theorem camT_more (h : i < (camT zs fr i).length) : camT zs fr (i + 1) = addL (camT zs fr i) (nxOf zs (nth (camT zs fr i) i)) := if_pos h
theorem camT_same (h : (camT zs fr i).length ≤ i) : camT zs fr (i + 1) = camT zs fr i := if_neg (by omega)
theorem camT_ok : ∀ i, CamW zs fr (camT zs fr i)
  | 0 => CamW.adds CamW.nil fun _ hy _ => .inl hy
  | i + 1 => by
    by_cases h : i < (camT zs fr i).length
    · rw [camT_more h]
      exact CamW.adds (camT_ok i) fun _ hy _ => .inr ⟨i, h, hy⟩
    · rw [camT_same (by omega)]; exact camT_ok i
theorem camT_up : ∀ {i k}, i ≤ k → ∀ x ∈ camT zs fr i, x ∈ camT zs fr k
  | i, 0, h, x, hx => by
    obtain rfl : i = 0 := by omega
    exact hx
  | i, k + 1, h, x, hx => by
    rcases Nat.lt_or_eq_of_le h with h1 | h1
    · have h2 := camT_up (Nat.le_of_lt_succ h1) x hx
      by_cases hk : k < (camT zs fr k).length
      · rw [camT_more hk]; exact addL_mem.2 (.inl h2)
      · rw [camT_same (by omega)]; exact h2
    · subst h1; exact hx
theorem camT_fr (hf : ∀ x ∈ fr, 0 ≤ x) (i : Nat) : ∀ x ∈ fr, x ∈ camT zs fr i := fun x hx => camT_up (Nat.zero_le i) x (addL_mem.2 (.inr ⟨hx, hf x hx⟩))
/-- What was gone over is closed. -/
theorem camT_closed : ∀ i j, j < i → j < (camT zs fr i).length → ∀ y ∈ nxOf zs (nth (camT zs fr i) j), y < 0 ∨ y ∈ camT zs fr i
  | 0, _, hj, _, _, _ => absurd hj (by omega)
  | i + 1, j, hj, hl, y, hy => by
    by_cases h : i < (camT zs fr i).length
    · rw [camT_more h] at hl hy ⊢
      rw [addL_nth (by omega)] at hy
      rcases Nat.lt_or_eq_of_le (Nat.le_of_lt_succ hj) with h1 | h1
      · exact (camT_closed i j h1 (by omega) y hy).imp id fun h => addL_mem.2 (.inl h)
      · subst h1
        rcases Int.lt_or_le y 0 with h0 | h0
        · exact .inl h0
        · exact .inr (addL_mem.2 (.inr ⟨hy, h0⟩))
    · rw [camT_same (by omega)] at hl hy ⊢
      exact camT_closed i j (by omega) hl y hy
theorem camT_stop (h : (camT zs fr i).length ≤ i) : ∀ {k}, i ≤ k → camT zs fr k = camT zs fr i
  | 0, hk => by
    obtain rfl : i = 0 := by omega
    rfl
  | k + 1, hk => by
    rcases Nat.lt_or_eq_of_le hk with h1 | h1
    · have h2 := camT_stop h (Nat.le_of_lt_succ h1)
      rw [camT_same (by rw [h2]; omega), h2]
    · subst h1; rfl
theorem camL_at (h : (camT zs fr i).length ≤ i) (hi : i ≤ zs.length) : camL zs fr = camT zs fr i := camT_stop h hi
theorem CamW.reach (h : CamW zs fr out) : ∀ j, j < out.length → Reach (nxOf zs) fr (nth out j) := by
  intro j
  induction j using Nat.strongRecOn with
  | ind j ih =>
    intro hj
    rcases h.named j hj with h1 | ⟨k, hk, h1⟩
    · exact .base h1
    · exact .step (ih k hk (by omega)) h1 (h.pos _ (nth_mem hj))
section
variable (hz : ∀ z ∈ zs, (Lit.int .u64 z).wf = true) (h0 : fromE zs fr = 0)
include hz h0
theorem camT_lives (i : Nat) : ∀ x ∈ camT zs fr i, x ∈ livesI zs := fun x hx => by
  obtain ⟨j, hj, e⟩ := List.getElem_of_mem hx
  have h1 := (camT_ok (zs := zs) (fr := fr) i).reach j hj
  rw [nth_get _ _ hj, e] at h1
  exact reachL_lives x ((reachL_mem hz h0).2 h1)
theorem camT_len (i : Nat) : (camT zs fr i).length ≤ zs.length := by
  refine Nat.le_trans (sub_length (camT_ok i).nd (camT_lives hz h0 i)) ?_
  unfold livesI
  rw [List.length_map]
  have h1 := List.length_filter_le (isLive zs) (begins zs 0)
  have h2 := begins_len (zs := zs) (a := 0)
  omega
theorem camL_closed : ∀ j, j < (camL zs fr).length → ∀ y ∈ nxOf zs (nth (camL zs fr) j), y < 0 ∨ y ∈ camL zs fr := fun j hj => camT_closed zs.length j (Nat.lt_of_lt_of_le hj (camT_len hz h0 _)) hj
theorem camL_len : (camL zs fr).length ≤ 256 := Nat.le_trans (camT_len hz h0 _) (arena_len (fromE_zero h0).1)
theorem camL_lives : ∀ x ∈ camL zs fr, x ∈ livesI zs := camT_lives hz h0 _
omit hz in
theorem camL_fr : ∀ x ∈ fr, x ∈ camL zs fr := camT_fr (fun x hx => (lives_pos x ((fromE_zero h0).2 x hx))) _
theorem camL_reach {x : Int} : x ∈ camL zs fr ↔ Reach (nxOf zs) fr x := by
  constructor
  · intro hx
    obtain ⟨j, hj, e⟩ := List.getElem_of_mem hx
    have h1 : Reach (nxOf zs) fr (nth (camL zs fr) j) := (camT_ok (zs := zs) (fr := fr) zs.length).reach j hj
    rw [nth_get _ _ hj] at h1
    rw [← e]; exact h1
  · intro hx
    refine reach_least (S := fun x => x ∈ camL zs fr) (camL_fr h0) (fun x hx y hy hp => ?_) hx
    obtain ⟨j, hj, e⟩ := List.getElem_of_mem hx
    have h1 := camL_closed hz h0 j hj y (by rw [nth_get _ _ hj, e]; exact hy)
    exact h1.resolve_left (by omega)
theorem camL_mem {x : Int} : x ∈ camL zs fr ↔ x ∈ reachL zs fr := by rw [camL_reach hz h0, reachL_mem hz h0]
theorem camL_perm : (camL zs fr).Perm (reachL zs fr) := (List.perm_ext_iff_of_nodup (camT_ok _).nd (reachL_rise.imp fun h e => by omega)).2 fun _ => camL_mem hz h0
end
theorem camL_nd : (camL zs fr).Nodup := (camT_ok _).nd
end
/-- How many words some objects take. -/
def tkL (zs l : List Int) : Nat := ((l.map Int.toNat).map (longN zs)).sum
/-- The place of an object in a list. -/
def plI (l : List Int) (y : Int) : Int := if y ∈ l then (l.idxOf y : Int) else -1
/-- The description of an object; of all of them. -/
def obC (zs l : List Int) (x : Int) : Ob := (vT (nth zs x.toNat), (named zs x.toNat).map (plI l), bodyWords zs x.toNat, false)
def obsC (zs l : List Int) : List Ob := l.map (obC zs l)
/-- Where they begin. -/
def begC (zs l : List Int) : List Int := (List.range l.length).map fun i => (tkL zs (l.take i) : Int)
section
variable {zs l fr : List Int} {i : Nat}
theorem tkL_snoc {x : Int} : tkL zs (l ++ [x]) = tkL zs l + longN zs x.toNat := by unfold tkL; simp [List.sum_append]
theorem tkL_next (h : i < l.length) : tkL zs (l.take (i + 1)) = tkL zs (l.take i) + longN zs (nth l i).toNat := by rw [List.take_succ_eq_append_getElem h, tkL_snoc, nth_get _ _ h]
theorem tkL_mono {j : Nat} (hij : i ≤ j) (hj : j ≤ l.length) : tkL zs (l.take i) ≤ tkL zs (l.take j) := by
  induction j with
  | zero =>
    obtain rfl : i = 0 := by omega
    exact Nat.le_refl _
  | succ j ih =>
    rcases Nat.lt_or_eq_of_le hij with h | h
    · rw [tkL_next (by omega)]
      have := ih (by omega) (by omega)
      omega
    · subst h; exact Nat.le_refl _
theorem tkL_perm {m : List Int} (h : l.Perm m) : tkL zs l = tkL zs m := by unfold tkL; exact ((h.map _).map _).sum_nat
theorem plI_in {y : Int} (h : y ∈ l) : ∃ k : Nat, plI l y = k ∧ k < l.length ∧ nth l k = y := by
  refine ⟨l.idxOf y, if_pos h, List.idxOf_lt_length_of_mem h, ?_⟩
  rw [nth_get _ _ (List.idxOf_lt_length_of_mem h), List.getElem_idxOf]
theorem plI_out {y : Int} (h : y ∉ l) : plI l y = -1 := if_neg h
theorem nodup_one (h : l.Nodup) {j k : Nat} (hj : j < l.length) (hk : k < l.length) (e : nth l j = nth l k) : j = k := by
  rw [nth_get _ _ hj, nth_get _ _ hk] at e
  rcases Nat.lt_trichotomy j k with hh | hh | hh
  · exact absurd e ((List.pairwise_iff_getElem.1 h) j k hj hk hh)
  · exact hh
  · exact absurd e.symm ((List.pairwise_iff_getElem.1 h) k j hk hj hh)
theorem plI_at (h : l.Nodup) (hi : i < l.length) : plI l (nth l i) = i := by
  obtain ⟨k, e, hk, e2⟩ := plI_in (nth_mem hi)
  rw [e, nodup_one h hk hi e2]
theorem obsC_len : (obsC zs l).length = l.length := by simp [obsC]
theorem obsC_nth (h : i < l.length) : nthG (obsC zs l) i = obC zs l (nth l i) := by
  rw [nthG_get _ _ (by rw [obsC_len]; exact h), nth_get _ _ h]; simp [obsC]
theorem begC_len : (begC zs l).length = l.length := by simp [begC]
theorem begC_nth (h : i < l.length) : nth (begC zs l) i = (tkL zs (l.take i) : Int) := by
  rw [nth_get _ _ (by rw [begC_len]; exact h)]; simp [begC]
end
theorem sum_takes {zs fr : List Int} : tkL zs (reachL zs fr) = takesN zs fr := by
  unfold tkL takesN
  refine (cnt_covers ?_ (toNat_begins reachL_lives)).symm
  rw [List.Nodup, List.pairwise_map]
  refine List.Pairwise.imp_of_mem ?_ reachL_rise
  intro a b ha hb hlt e
  have h1 := lives_pos a (reachL_lives a ha)
  have h2 := lives_pos b (reachL_lives b hb)
  omega
theorem cam_takes {zs fr : List Int} (hz : ∀ z ∈ zs, (Lit.int .u64 z).wf = true) (h0 : fromE zs fr = 0) : tkL zs (camL zs fr) = takesN zs fr := by rw [tkL_perm (camL_perm hz h0), sum_takes]
end Go.Proofs.Ytjefbekdjgmmbaa
namespace Go.Proofs.Ytjefbekdjgmmbaa
open Go.RowKit
/-- The form: the objects in the order in which they are come to, and the places of what one begins with. -/
def formO (zs fr : List Int) : List Ob := obsC zs (camL zs fr)
def formF (zs fr : List Int) : List Int := fr.map (plI (camL zs fr))
def sameB (zs fr ys gr : List Int) : Bool := decide (formO zs fr = formO ys gr ∧ formF zs fr = formF ys gr)
theorem sameB_iff {zs fr ys gr : List Int} : sameB zs fr ys gr = true ↔ formO zs fr = formO ys gr ∧ formF zs fr = formF ys gr := by unfold sameB; rw [decide_eq_true_eq]
theorem sameB_comm {zs fr ys gr : List Int} : sameB zs fr ys gr = sameB ys gr zs fr := by
  rw [Bool.eq_iff_iff, sameB_iff, sameB_iff]
  exact ⟨fun h => ⟨h.1.symm, h.2.symm⟩, fun h => ⟨h.1.symm, h.2.symm⟩⟩
theorem sameB_trans {zs fr ys gr xs er : List Int} (h1 : sameB zs fr ys gr = true) (h2 : sameB ys gr xs er = true) : sameB zs fr xs er = true := by
  rw [sameB_iff] at *
  exact ⟨h1.1.trans h2.1, h1.2.trans h2.2⟩
/-- 'f' takes what is reached in 'zs' to what is in 'ys', and keeps all but the places. -/
structure Iso (zs ys fr : List Int) (f : Int → Int) : Prop where
  neg : ∀ y, y < 0 → f y < 0
  pos : ∀ x ∈ camL zs fr, 0 ≤ f x
  inj : ∀ x ∈ camL zs fr, ∀ y ∈ camL zs fr, f x = f y → x = y
  named : ∀ x ∈ camL zs fr, named ys (f x).toNat = (named zs x.toNat).map f
  tag : ∀ x ∈ camL zs fr, vT (nth ys (f x).toNat) = vT (nth zs x.toNat)
  body : ∀ x ∈ camL zs fr, bodyWords ys (f x).toNat = bodyWords zs x.toNat
section
variable {zs ys fr out l : List Int} {f : Int → Int} {x y : Int} {i k : Nat}
theorem mapf_mem (h : Iso zs ys fr f) (hl : ∀ x ∈ l, x ∈ camL zs fr) (hy : y < 0 ∨ y ∈ camL zs fr) : f y ∈ l.map f ↔ y ∈ l := by
  rw [List.mem_map]
  constructor
  · rintro ⟨x, hx, e⟩
    rcases hy with hy | hy
    · have h1 := h.pos x (hl x hx)
      have h2 := h.neg y hy
      omega
    · rw [← h.inj x (hl x hx) y hy e]; exact hx
  · exact fun hy => ⟨y, hy, rfl⟩
theorem Iso.addN (h : Iso zs ys fr f) (hl : ∀ x ∈ out, x ∈ camL zs fr) (hy : y < 0 ∨ y ∈ camL zs fr) : (addN out y).map f = Go.Proofs.Ytjefbekdjgmmbaa.addN (out.map f) (f y) := by
  have hm := mapf_mem h hl hy
  by_cases hc : y < 0 ∨ y ∈ out
  · rw [addN_no hc]
    refine (addN_no ?_).symm
    rcases hc with hc | hc
    · exact .inl (h.neg y hc)
    · exact .inr (hm.2 hc)
  · rw [addN_yes hc]
    have hp : 0 ≤ f y := h.pos y (hy.resolve_left fun h => hc (.inl h))
    rw [addN_yes (by rintro (h1 | h1); omega; exact hc (.inr (hm.1 h1)))]
    simp
theorem Iso.addL (h : Iso zs ys fr f) : ∀ {l out : List Int}, (∀ x ∈ out, x ∈ camL zs fr) → (∀ y ∈ l, y < 0 ∨ y ∈ camL zs fr) → (addL out l).map f = Go.Proofs.Ytjefbekdjgmmbaa.addL (out.map f) (l.map f)
  | [], _, _, _ => rfl
  | y :: l, out, hl, hy => by
    have hy1 := hy y List.mem_cons_self
    show (Go.Proofs.Ytjefbekdjgmmbaa.addL (Go.Proofs.Ytjefbekdjgmmbaa.addN out y) l).map f = Go.Proofs.Ytjefbekdjgmmbaa.addL (Go.Proofs.Ytjefbekdjgmmbaa.addN (out.map f) (f y)) (l.map f)
    rw [← h.addN hl hy1]
    refine h.addL (fun x hx => ?_) fun z hz => hy z (List.mem_cons_of_mem _ hz)
    rcases addN_mem.1 hx with hx | ⟨rfl, hp⟩
    · exact hl x hx
    · exact hy1.resolve_left (by omega)
section
variable (hz : ∀ z ∈ zs, (Lit.int .u64 z).wf = true) (h0 : fromE zs fr = 0)
include hz h0
theorem camT_in (i : Nat) : ∀ x ∈ camT zs fr i, x ∈ camL zs fr := fun x hx => by
  obtain ⟨j, hj, e⟩ := List.getElem_of_mem hx
  rw [camL_reach hz h0, ← e, ← nth_get _ _ hj]
  exact (camT_ok i).reach j hj
theorem cam_next (hx : x ∈ camL zs fr) : ∀ y ∈ nxOf zs x, y < 0 ∨ y ∈ camL zs fr := fun y hy => by
  obtain ⟨j, hj, e⟩ := List.getElem_of_mem hx
  rw [← nth_get _ _ hj] at e
  exact camL_closed hz h0 j hj y (by rw [e]; exact hy)
theorem Iso.camT (h : Iso zs ys fr f) : ∀ i, camT ys (fr.map f) i = (Go.Proofs.Ytjefbekdjgmmbaa.camT zs fr i).map f
  | 0 => by
    have := h.addL (l := fr) (out := []) (by intro x hx; cases hx) fun y hy => .inr (camL_fr h0 y hy)
    exact this.symm
  | i + 1 => by
    have ih := Iso.camT h i
    by_cases hi : i < (Go.Proofs.Ytjefbekdjgmmbaa.camT zs fr i).length
    · have hin := camT_in hz h0 i
      have hmem : nth (Go.Proofs.Ytjefbekdjgmmbaa.camT zs fr i) i ∈ camL zs fr := hin _ (nth_mem hi)
      rw [camT_more hi, camT_more (by rw [ih, List.length_map]; exact hi), ih]
      have e : nth ((Go.Proofs.Ytjefbekdjgmmbaa.camT zs fr i).map f) i = f (nth (Go.Proofs.Ytjefbekdjgmmbaa.camT zs fr i) i) := by
        rw [nth_get _ _ (by rw [List.length_map]; exact hi), List.getElem_map, nth_get _ _ hi]
      rw [e]
      have e2 : nxOf ys (f (nth (Go.Proofs.Ytjefbekdjgmmbaa.camT zs fr i) i)) = (nxOf zs (nth (Go.Proofs.Ytjefbekdjgmmbaa.camT zs fr i) i)).map f := h.named _ hmem
      rw [e2]
      exact (h.addL hin (cam_next hz h0 hmem)).symm
    · rw [camT_same (zs := ys) (fr := fr.map f) (by rw [ih, List.length_map]; omega), camT_same (zs := zs) (by omega), ih]
theorem cam_stop {k : Nat} (hk : (camL zs fr).length ≤ k) : camT zs fr k = camL zs fr := by
  have hle : (camT zs fr (camL zs fr).length).length ≤ (camL zs fr).length := sub_length (camT_ok _).nd (camT_in hz h0 _)
  have hN : (camL zs fr).length ≤ zs.length := camT_len hz h0 _
  rw [camT_stop hle hk, ← camT_stop hle hN]
  rfl
/-- The order of the one is the order of the other. -/
theorem Iso.cam (h : Iso zs ys fr f) (hzy : ∀ z ∈ ys, (Lit.int .u64 z).wf = true) (hy : fromE ys (fr.map f) = 0) : camL ys (fr.map f) = (camL zs fr).map f := by
  unfold camL at *
  rw [h.camT hz h0 ys.length]
  refine congrArg _ (cam_stop hz h0 ?_)
  have h2 := camT_len hzy hy zs.length
  rw [h.camT hz h0 zs.length, List.length_map] at h2
  exact h2
end
theorem Iso.plI (h : Iso zs ys fr f) (hl : ∀ x ∈ l, x ∈ camL zs fr) (hy : y < 0 ∨ y ∈ camL zs fr) : plI (l.map f) (f y) = Go.Proofs.Ytjefbekdjgmmbaa.plI l y := by
  have hm := mapf_mem h hl hy
  unfold Go.Proofs.Ytjefbekdjgmmbaa.plI
  by_cases hy2 : y ∈ l
  · rw [if_pos hy2, if_pos (hm.2 hy2)]
    have hidx : ∀ {l : List Int}, (∀ x ∈ l, f x = f y → x = y) → (l.map f).idxOf (f y) = l.idxOf y := by
      intro l
      induction l with
      | nil => intro _; rfl
      | cons a l ih =>
        intro hi
        rw [List.map_cons, List.idxOf_cons, List.idxOf_cons]
        by_cases e : a = y
        · subst e; simp
        · have e2 : ¬ f a = f y := fun e3 => e (hi a List.mem_cons_self e3)
          rw [show (f a == f y) = false by simpa using e2, show (a == y) = false by simpa using e]
          rw [ih fun x hx => hi x (List.mem_cons_of_mem _ hx)]
    rw [hidx fun x hx e => h.inj x (hl x hx) y (hl y hy2) e]
  · rw [if_neg hy2, if_neg (fun hc => hy2 (hm.1 hc))]
/-- The forms are one. -/
theorem Iso.same (h : Iso zs ys fr f) (hz : ∀ z ∈ zs, (Lit.int .u64 z).wf = true) (h0 : fromE zs fr = 0) (hzy : ∀ z ∈ ys, (Lit.int .u64 z).wf = true) (hy : fromE ys (fr.map f) = 0) : sameB zs fr ys (fr.map f) = true := by
  have hc := h.cam hz h0 hzy hy
  refine sameB_iff.2 ⟨?_, ?_⟩
  · unfold formO obsC
    rw [hc, List.map_map]
    refine List.map_congr_left fun x hx => ?_
    show obC zs (camL zs fr) x = obC ys ((camL zs fr).map f) (f x)
    unfold obC
    rw [h.tag x hx, h.body x hx, h.named x hx, List.map_map]
    refine congrArg (fun q => (_, q, _, _)) (List.map_congr_left fun y hy' => ?_)
    exact (h.plI (fun x hx => hx) (cam_next hz h0 hx y hy')).symm
  · unfold formF
    rw [hc, List.map_map]
    exact List.map_congr_left fun x hx => (h.plI (fun x hx => hx) (.inr (camL_fr h0 x hx))).symm
end
end Go.Proofs.Ytjefbekdjgmmbaa
namespace Go.Proofs.Ytjefbekdjgmmbaa
open Go.RowKit
/-- All of a list are objects. -/
def allIn (zs fr : List Int) : Bool := fr.all fun x => decide (x ∈ livesI zs)
theorem allIn_iff {zs fr : List Int} : allIn zs fr = true ↔ ∀ x ∈ fr, x ∈ livesI zs := by unfold allIn; simp
/-- A list rises. -/
def riseB (l : List Int) : Bool := decide (∀ i, i < l.length - 1 → nth l i < nth l (i + 1))
theorem riseB_iff {l : List Int} : riseB l = true ↔ l.Pairwise (· < ·) := by
  unfold riseB
  rw [decide_eq_true_eq]
  constructor
  · intro h
    rw [List.pairwise_iff_getElem]
    intro i j hi hj hij
    induction j with
    | zero => omega
    | succ j ih =>
      have h1 := h j (by omega)
      rw [nth_get _ _ (by omega), nth_get _ _ hj] at h1
      rcases Nat.lt_or_ge i j with h2 | h2
      · have := ih (by omega) h2
        omega
      · obtain rfl : i = j := by omega
        exact h1
  · intro h i hi
    rw [nth_get _ _ (by omega), nth_get _ _ (by omega)]
    exact List.pairwise_iff_getElem.1 h i (i + 1) (by omega) (by omega) (by omega)
set_option maxHeartbeats 1000000 in
theorem increasing_any (A : Option Addr) (n c B : Nat) (xs : List Int) (w : World) (hn : n ≤ maxLen) (ha : Arr .i64 w B A n xs) :
    Calls Try.prog 118 #[.slice A n c] w fun e w' => e = .returned (.bool (riseB xs)) ∧ ∃ q, w.drewN q = w' := by
  unfold maxLen at hn
  have HA := Lib.hid ha
  have hl := ha.1
  clear ha
  go_enter Try.func118, Try.ntmps118
  go_wp2_with fail
  go_loopw [3] (fun i wr => ∃ k : Nat, 1 ≤ k ∧ i = .int .i64 k ∧ (∃ q, w.drewN q = wr) ∧ k ≤ n + 1 ∧ Hid (∀ i, i + 1 < k → i + 1 < n → nth xs i < nth xs (i + 1))) (fun i _ => n + 1 - (intOf i).toNat)
  case atStart => exact ⟨1, Nat.le_refl _, by go_num, ⟨0, rfl⟩, by omega, fun i hi => absurd hi (by omega)⟩
  case round =>
    obtain ⟨k, hk1, rfl, ⟨q, rfl⟩, hkn, HP⟩ := hrel
    by_cases hlt : k < n
    · obtain ⟨b, off, rfl, _, hcs⟩ := HA.out.2.2 (by omega)
      obtain ⟨j, rfl⟩ : ∃ j, k = j + 1 := ⟨k - 1, by omega⟩
      have c0 := hcs (j + 1) hlt
      have c1 := hcs j (by omega)
      have e1 : ((j + 1 : Nat) : Int) - 1 = j := by omega
      have e2 : IntKind.i64.wrap (j : Int) = j := IntWalk.i64_in _ (by omega)
      have HPN : Hid (nth xs j < nth xs (j + 1) → ∀ i, i + 1 < j + 1 + 1 → i + 1 < n → nth xs i < nth xs (i + 1)) := fun h i hi hin => by
        rcases Nat.lt_succ_iff_lt_or_eq.1 hi with h1 | h1
        · exact HP.out i h1 hin
        · obtain rfl : i = j := by omega
          exact h
      have HNO : Hid (¬ nth xs j < nth xs (j + 1) → riseB xs = false) := fun h => by
        unfold riseB
        rw [decide_eq_false_iff_not]
        exact fun h2 => h (h2 j (by omega))
      clear hcs HP
      generalize nth xs (j + 1) = X at *
      generalize nth xs j = Y at *
      have d0 : (w.drewN q).cell? ⟨b, off + (j + 1), none⟩ = some (.int .i64 X) := c0
      have d1 : (w.drewN q).cell? ⟨b, off + j, none⟩ = some (.int .i64 Y) := c1
      clear c0 c1
      obtain ⟨W, hW⟩ : ∃ W, w.drewN q = W := ⟨_, rfl⟩
      rw [hW] at d0 d1 ⊢
      have HWq := Lib.hid hW
      clear hW
      by_cases hxy : Y < X
      · have f1 : (X ≤ Y) = False := eq_false (by omega)
        have f2 : (Y ≥ X) = False := eq_false (by omega)
        have HP2 := Lib.hid (HPN.out hxy)
        clear HPN HNO hxy
        go_wp2_with fail
        go_quiet (fail)
        go_wp2
        go_roundw
        case rel => exact ⟨j + 1 + 1, by omega, by go_num, ⟨_, (by rw [← HWq.out]; exact (World.drewN_drewN w q _).symm)⟩, by omega, HP2.out⟩
        case measure => simp [intOf]; omega
      · have f1 : (X ≤ Y) = True := eq_true (by omega)
        have f2 : (Y ≥ X) = True := eq_true (by omega)
        have HN := Lib.hid (HNO.out hxy)
        clear HPN HNO hxy
        go_wp2_with fail
        go_quiet (fail)
        go_wp2
        go_ret
        exact ⟨by rw [HN.out]; rfl, _, (by rw [← HWq.out]; exact (World.drewN_drewN w q _).symm)⟩
    · have HR : Hid (riseB xs = true) := by
        show _ = _
        unfold riseB
        rw [decide_eq_true_eq]
        exact fun i hi => HP.out i (by omega) (by omega)
      clear HP
      have f0 : ((k : Int) < (n : Int)) = False := eq_false (by omega)
      go_wp2
      go_ret
      exact ⟨by rw [HR.out]; rfl, q, rfl⟩
theorem Own.less {k : IntKind} {e : TypeId} {w : World} {base base' : Nat} {v : Value} {xs : List Int} (h : Own k e w base v xs) (hb : base' ≤ base) : Own k e w base' v xs := by
  obtain ⟨⟨hl, h2⟩, hw⟩ := h
  refine ⟨⟨hl, h2.imp id ?_⟩, hw⟩
  rintro ⟨g', cap, cur, hv, hg, r⟩
  exact ⟨g', cap, cur, hv, Nat.le_trans hb hg, r⟩
end Go.Proofs.Ytjefbekdjgmmbaa
namespace Go.Proofs.Ytjefbekdjgmmbaa
open Go.RowKit
/-- How many words the object at 'x' takes. -/
def lgI (zs : List Int) (x : Int) : Int := (longN zs x.toNat : Int)
/-- Where the first 'i' of them end, once moved. -/
def endN (zs ks ps : List Int) : Nat → Int
  | 0 => 0
  | i + 1 => (if nth ks i ∈ ps then nth ks i else endN zs ks ps i) + lgI zs (nth ks i)
/-- Where number 'i' goes. -/
def toN (zs ks ps : List Int) (i : Nat) : Int := if nth ks i ∈ ps then nth ks i else endN zs ks ps i
/-- The first 'i' of them, moved. -/
def moveTo (zs ks ps : List Int) (i : Nat) : List (Int × Int) := (List.range i).map fun j => (toN zs ks ps j, lgI zs (nth ks j))
def moveL (zs ks ps : List Int) : List (Int × Int) := moveTo zs ks ps ks.length
def toTo (zs ks ps : List Int) (i : Nat) : List Int := (List.range i).map (toN zs ks ps)
def toL (zs ks ps : List Int) : List Int := toTo zs ks ps ks.length
/-- Where range number 'i - 1' ends. -/
def bEnd (l : List (Int × Int)) : Nat → Int
  | 0 => 0
  | i + 1 => (nthG l i).1 + (nthG l i).2
/-- What is ahead of the first 'i' ranges. -/
def gapsB (l : List (Int × Int)) : Nat → List (Int × Int)
  | 0 => []
  | i + 1 => gapsB l i ++ if bEnd l i < (nthG l i).1 then [(bEnd l i, (nthG l i).1 - bEnd l i)] else []
/-- What is between, ahead of and behind the ranges. -/
def betwL (l : List (Int × Int)) (n : Int) : List (Int × Int) := gapsB (l ++ [(n, 0)]) (l.length + 1)
/-- The gaps that are left. -/
def gapP (zs ks ps : List Int) : List (Int × Int) := betwL (moveL zs ks ps) zs.length
/-- All of 'ps' are in 'ks'. -/
def subB (ks ps : List Int) : Bool := ps.all fun x => decide (x ∈ ks)
/-- The first error. -/
def planE (zs ks ps : List Int) : Int := if arErr zs ≠ 0 then arErr zs else if (riseB ks && riseB ps) = false then 3 else if (allIn zs ks && subB ks ps) = false then 5 else 0
/-- What To, Gaps answer. -/
def toR (zs ks ps : List Int) : List Int := if planE zs ks ps = 0 then toL zs ks ps else []
def gapR (zs ks ps : List Int) : List (Int × Int) := if planE zs ks ps = 0 then gapP zs ks ps else []
/-- Is word 'k' taken by none of them? -/
def freeP (zs ks ps : List Int) (k : Nat) : Bool := !(List.range ks.length).any fun i => decide (toN zs ks ps i ≤ k ∧ (k : Int) < endN zs ks ps (i + 1))
section
variable {zs ks ps : List Int} {i j : Nat}
theorem planE_arena (h : arErr zs ≠ 0) : planE zs ks ps = arErr zs := by unfold planE; rw [if_pos h]
theorem planE_form (h : arErr zs = 0) (h1 : (riseB ks && riseB ps) = false) : planE zs ks ps = 3 := by unfold planE; rw [if_neg (by simp [h]), if_pos h1]
theorem planE_none (h : arErr zs = 0) (h1 : (riseB ks && riseB ps) = true) (h2 : (allIn zs ks && subB ks ps) = false) : planE zs ks ps = 5 := by unfold planE; rw [if_neg (by simp [h]), if_neg (by simp [h1]), if_pos h2]
theorem planE_ok (h : arErr zs = 0) (h1 : (riseB ks && riseB ps) = true) (h2 : (allIn zs ks && subB ks ps) = true) : planE zs ks ps = 0 := by unfold planE; rw [if_neg (by simp [h]), if_neg (by simp [h1]), if_neg (by simp [h2])]
theorem subB_iff : subB ks ps = true ↔ ∀ x ∈ ps, x ∈ ks := by unfold subB; simp
/-- What keeps the rules. -/
structure PlanOk (zs ks ps : List Int) : Prop where
  arena : arErr zs = 0
  kr : ks.Pairwise (· < ·)
  pr : ps.Pairwise (· < ·)
  kl : ∀ x ∈ ks, x ∈ livesI zs
  pk : ∀ x ∈ ps, x ∈ ks
theorem planE_zero : planE zs ks ps = 0 ↔ PlanOk zs ks ps := by
  constructor
  · intro h
    by_cases h0 : arErr zs = 0
    · cases h1 : (riseB ks && riseB ps)
      · rw [planE_form h0 h1] at h; omega
      · cases h2 : (allIn zs ks && subB ks ps)
        · rw [planE_none h0 h1 h2] at h; omega
        · rw [Bool.and_eq_true] at h1 h2
          exact ⟨h0, riseB_iff.1 h1.1, riseB_iff.1 h1.2, allIn_iff.1 h2.1, subB_iff.1 h2.2⟩
    · rw [planE_arena h0] at h; exact absurd h h0
  · rintro ⟨h0, h1, h2, h3, h4⟩
    exact planE_ok h0 (by rw [riseB_iff.2 h1, riseB_iff.2 h2]; rfl) (by rw [allIn_iff.2 h3, subB_iff.2 h4]; rfl)
theorem toR_ok (h : planE zs ks ps = 0) : toR zs ks ps = toL zs ks ps := if_pos h
theorem toR_bad (h : planE zs ks ps ≠ 0) : toR zs ks ps = [] := if_neg h
theorem gapR_ok (h : planE zs ks ps = 0) : gapR zs ks ps = gapP zs ks ps := if_pos h
theorem gapR_bad (h : planE zs ks ps ≠ 0) : gapR zs ks ps = [] := if_neg h
theorem endN_succ : endN zs ks ps (i + 1) = toN zs ks ps i + lgI zs (nth ks i) := rfl
theorem toN_pin (h : nth ks i ∈ ps) : toN zs ks ps i = nth ks i := if_pos h
theorem toN_move (h : nth ks i ∉ ps) : toN zs ks ps i = endN zs ks ps i := if_neg h
theorem moveTo_succ : moveTo zs ks ps (i + 1) = moveTo zs ks ps i ++ [(toN zs ks ps i, lgI zs (nth ks i))] := by unfold moveTo; rw [List.range_succ, List.map_append]; rfl
theorem moveTo_len : (moveTo zs ks ps i).length = i := by simp [moveTo]
theorem toTo_succ : toTo zs ks ps (i + 1) = toTo zs ks ps i ++ [toN zs ks ps i] := by unfold toTo; rw [List.range_succ, List.map_append]; rfl
theorem toTo_len : (toTo zs ks ps i).length = i := by simp [toTo]
theorem toTo_nth (h : j < i) : nth (toTo zs ks ps i) j = toN zs ks ps j := by
  rw [nth_get _ _ (by rw [toTo_len]; exact h)]; simp [toTo]
theorem moveTo_nth (h : j < i) : nthG (moveTo zs ks ps i) j = (toN zs ks ps j, lgI zs (nth ks j)) := by
  rw [nthG_get _ _ (by rw [moveTo_len]; exact h)]; simp [moveTo]
theorem moveL_len : (moveL zs ks ps).length = ks.length := moveTo_len
theorem toL_len : (toL zs ks ps).length = ks.length := toTo_len
/-- An object that is not free. -/
theorem live_lg {x : Int} (h : x ∈ livesI zs) : 0 ≤ x ∧ 1 ≤ lgI zs x ∧ x + lgI zs x ≤ zs.length := by
  obtain ⟨s, hs, _, rfl⟩ := lives_mem.1 h
  have h1 := sLong_pos (nth zs s)
  have h3 := (begins_mem hs).2.2
  unfold stepOk at h3
  simp only [Bool.and_eq_true, decide_eq_true_eq] at h3
  unfold lgI longN
  rw [Int.toNat_natCast]
  omega
theorem live_apart {x y : Int} (hx : x ∈ livesI zs) (hy : y ∈ livesI zs) (h : x < y) : x + lgI zs x ≤ y := by
  obtain ⟨s, hs, _, rfl⟩ := lives_mem.1 hx
  obtain ⟨t, ht, _, rfl⟩ := lives_mem.1 hy
  have := begins_apart hs ht (by omega)
  unfold lgI longN
  rw [Int.toNat_natCast]
  omega
section
variable (h : PlanOk zs ks ps)
include h
theorem PlanOk.live (hi : i < ks.length) : nth ks i ∈ livesI zs := h.kl _ (nth_mem hi)
theorem PlanOk.rise (hij : i < j) (hj : j < ks.length) : nth ks i < nth ks j := by
  rw [nth_get _ _ (by omega), nth_get _ _ hj]
  exact List.pairwise_iff_getElem.1 h.kr i j (by omega) hj hij
theorem PlanOk.len : ks.length ≤ 256 := Nat.le_trans (sub_length (h.kr.imp fun h e => by omega) h.kl) (lives_len (arena_len h.arena))
theorem PlanOk.plen : ps.length ≤ 256 := Nat.le_trans (sub_length (h.pr.imp fun h e => by omega) h.pk) h.len
/-- None goes up. -/
theorem PlanOk.ends : ∀ i, i ≤ ks.length → 0 ≤ endN zs ks ps i ∧ (i < ks.length → endN zs ks ps i ≤ nth ks i) ∧ endN zs ks ps i ≤ zs.length
  | 0, _ => ⟨Int.le_refl _, fun hi => (live_lg (h.live hi)).1, Int.natCast_nonneg _⟩
  | i + 1, hi => by
    obtain ⟨h1, h2, h3⟩ := PlanOk.ends i (by omega)
    obtain ⟨l1, l2, l3⟩ := live_lg (h.live (i := i) (by omega))
    have h2 := h2 (by omega)
    have h4 : endN zs ks ps (i + 1) ≤ nth ks i + lgI zs (nth ks i) ∧ 0 ≤ endN zs ks ps (i + 1) := by
      rw [endN_succ]
      unfold toN
      split <;> omega
    refine ⟨h4.2, fun hlt => ?_, by omega⟩
    have := live_apart (h.live (i := i) (by omega)) (h.live hlt) (h.rise (Nat.lt_succ_self i) hlt)
    omega
theorem PlanOk.to (hi : i < ks.length) : endN zs ks ps i ≤ toN zs ks ps i ∧ toN zs ks ps i ≤ nth ks i := by
  have h1 := (h.ends i (by omega)).2.1 hi
  unfold toN
  split <;> omega
theorem PlanOk.fits (hi : i < ks.length) : 0 ≤ toN zs ks ps i ∧ 1 ≤ lgI zs (nth ks i) ∧ toN zs ks ps i + lgI zs (nth ks i) ≤ zs.length := by
  have h1 := h.to hi
  have h2 := (h.ends i (by omega)).1
  have h3 := live_lg (h.live hi)
  omega
theorem PlanOk.up : ∀ {j i : Nat}, i ≤ j → j ≤ ks.length → endN zs ks ps i ≤ endN zs ks ps j
  | 0, i, hij, _ => by obtain rfl : i = 0 := by omega
                       exact Int.le_refl _
  | j + 1, i, hij, hj => by
    rcases Nat.lt_or_ge i (j + 1) with h1 | h1
    · have h2 := PlanOk.up (j := j) (i := i) (by omega) (by omega)
      have h3 := h.to (i := j) (by omega)
      have h4 := h.fits (i := j) (by omega)
      rw [endN_succ]
      omega
    · obtain rfl : i = j + 1 := by omega
      exact Int.le_refl _
/-- Ahead of number 'i' all is ahead, behind it all is behind. -/
theorem PlanOk.free {i k : Nat} (hi : i ≤ ks.length) (h1 : endN zs ks ps i ≤ k) (h2 : i < ks.length → (k : Int) < toN zs ks ps i) : freeP zs ks ps k = true := by
  unfold freeP
  rw [Bool.not_eq_true', List.any_eq_false]
  intro j hj
  rw [List.mem_range] at hj
  rw [decide_eq_true_eq]
  rintro ⟨q1, q2⟩
  rcases Nat.lt_or_ge j i with h3 | h3
  · have := h.up (i := j + 1) (j := i) (by omega) hi
    omega
  · have h4 := h2 (by omega)
    rcases Nat.lt_or_ge i j with h5 | h5
    · have := h.up (i := i + 1) (j := j) (by omega) (by omega)
      have h6 := h.to hj
      have h7 := h.fits (i := i) (by omega)
      rw [endN_succ] at this
      omega
    · obtain rfl : i = j := by omega
      omega
omit h in
theorem plan_taken {i k : Nat} (hi : i < ks.length) (h1 : toN zs ks ps i ≤ k) (h2 : (k : Int) < endN zs ks ps (i + 1)) : freeP zs ks ps k = false := by
  unfold freeP
  rw [Bool.not_eq_false', List.any_eq_true]
  exact ⟨i, List.mem_range.2 hi, by rw [decide_eq_true_eq]; exact ⟨h1, h2⟩⟩
omit h in
/-- What a stretch of free words adds. -/
theorem runs_stretch {f : Nat → Bool} {a b : Nat} (hab : a ≤ b) (h0 : a = 0 ∨ f (a - 1) = false) (hf : ∀ k, a ≤ k → k < b → f k = true) : runsTo f b = runsTo f a ++ if (a : Int) < b then [((a : Int), (b : Int) - a)] else [] := by
  rcases Nat.lt_or_ge a b with h1 | h1
  · obtain ⟨d, rfl⟩ : ∃ d, b = a + (d + 1) := ⟨b - a - 1, by omega⟩
    rw [runsTo_run h0 d hf, if_pos (by omega)]
    congr 3
    omega
  · obtain rfl : a = b := by omega
    rw [if_neg (by omega), List.append_nil]
theorem PlanOk.before {a : Nat} (hi : i ≤ ks.length) (ha : (a : Int) = endN zs ks ps i) : a = 0 ∨ freeP zs ks ps (a - 1) = false := by
  rcases i with _ | i
  · left
    have : endN zs ks ps 0 = 0 := rfl
    omega
  · rcases Nat.eq_zero_or_pos a with h0 | h0
    · exact .inl h0
    · right
      have h1 := h.fits (i := i) (by omega)
      rw [endN_succ] at ha
      exact plan_taken (i := i) (by omega) (by omega) (by rw [endN_succ]; omega)
omit h in
theorem move_nth {n : Int} (hi : i < ks.length) : nthG (moveL zs ks ps ++ [(n, 0)]) i = (toN zs ks ps i, lgI zs (nth ks i)) := by
  rw [nthG_append_left _ _ _ (by rw [moveL_len]; exact hi)]
  exact moveTo_nth hi
omit h in
theorem move_last {n : Int} : nthG (moveL zs ks ps ++ [(n, 0)]) ks.length = (n, 0) := by
  have := nthG_snoc (moveL zs ks ps) (n, (0 : Int))
  rwa [moveL_len] at this
omit h in
theorem move_end {n : Int} : ∀ {i : Nat}, i ≤ ks.length → bEnd (moveL zs ks ps ++ [(n, 0)]) i = endN zs ks ps i
  | 0, _ => rfl
  | i + 1, hi => by
    show (nthG (moveL zs ks ps ++ [(n, 0)]) i).1 + (nthG (moveL zs ks ps ++ [(n, 0)]) i).2 = _
    rw [move_nth (by omega)]
    rfl
/-- The runs of free words up to where number 'i' ends are the gaps ahead of it. -/
theorem PlanOk.gaps {n : Int} : ∀ i, i ≤ ks.length → ∀ a : Nat, (a : Int) = endN zs ks ps i → runsTo (freeP zs ks ps) a = gapsB (moveL zs ks ps ++ [(n, 0)]) i
  | 0, _, a, ha => by
    have : endN zs ks ps 0 = 0 := rfl
    obtain rfl : a = 0 := by omega
    rfl
  | i + 1, hi, a, ha => by
    obtain ⟨e1, _, _⟩ := h.ends i (by omega)
    have h1 := h.to (i := i) (by omega)
    have h2 := h.fits (i := i) (by omega)
    obtain ⟨b, hb⟩ : ∃ b : Nat, (b : Int) = endN zs ks ps i := ⟨(endN zs ks ps i).toNat, by omega⟩
    obtain ⟨c, hc⟩ : ∃ c : Nat, (c : Int) = toN zs ks ps i := ⟨(toN zs ks ps i).toNat, by omega⟩
    have ih := PlanOk.gaps (n := n) i (by omega) b hb
    have h3 := runs_stretch (f := freeP zs ks ps) (a := b) (b := c) (by omega) (h.before (i := i) (by omega) hb) fun k q1 q2 => h.free (i := i) (by omega) (by omega) (fun _ => by omega)
    have h4 : runsTo (freeP zs ks ps) a = runsTo (freeP zs ks ps) c := by
      obtain ⟨d, rfl⟩ : ∃ d, a = c + d := ⟨a - c, by rw [endN_succ] at ha; omega⟩
      exact runsTo_gap d fun k q1 q2 => plan_taken (i := i) (by omega) (by omega) (by omega)
    rw [h4, h3, ih]
    have e : gapsB (moveL zs ks ps ++ [(n, 0)]) (i + 1) = gapsB (moveL zs ks ps ++ [(n, 0)]) i ++ if endN zs ks ps i < toN zs ks ps i then [(endN zs ks ps i, toN zs ks ps i - endN zs ks ps i)] else [] := by
      show gapsB _ i ++ _ = _
      rw [move_end (by omega), move_nth (by omega)]
    rw [e, hb, hc]
theorem PlanOk.all : runsTo (freeP zs ks ps) zs.length = gapP zs ks ps := by
  obtain ⟨e1, _, e3⟩ := h.ends ks.length (Nat.le_refl _)
  obtain ⟨b, hb⟩ : ∃ b : Nat, (b : Int) = endN zs ks ps ks.length := ⟨(endN zs ks ps ks.length).toNat, by omega⟩
  have h3 := runs_stretch (f := freeP zs ks ps) (a := b) (b := zs.length) (by omega) (h.before (Nat.le_refl _) hb) fun k q1 q2 => h.free (i := ks.length) (Nat.le_refl _) (by omega) (fun q => absurd q (by omega))
  rw [h3, h.gaps (n := (zs.length : Int)) ks.length (Nat.le_refl _) b hb]
  unfold gapP betwL
  rw [moveL_len]
  show _ = gapsB _ ks.length ++ _
  rw [move_end (Nat.le_refl _), move_last, ← hb]
/-- What the first 'i' of them take. -/
def sumL (zs ks : List Int) : Nat → Int
  | 0 => 0
  | i + 1 => sumL zs ks i + lgI zs (nth ks i)
omit h in
theorem sum_app (l m : List (Int × Int)) : ((l ++ m).map (·.2)).sum = (l.map (·.2)).sum + (m.map (·.2)).sum := by simp
theorem PlanOk.room : ∀ i, i ≤ ks.length → sumL zs ks i + ((gapsB (moveL zs ks ps ++ [((zs.length : Int), 0)]) i).map (·.2)).sum = endN zs ks ps i
  | 0, _ => rfl
  | i + 1, hi => by
    have ih := PlanOk.room i (by omega)
    have h1 := h.to (i := i) (by omega)
    show sumL zs ks i + lgI zs (nth ks i) + ((gapsB _ i ++ _).map (·.2)).sum = _
    rw [sum_app, move_end (by omega), move_nth (by omega), endN_succ]
    show _ + (_ + (List.map (·.2) (if endN zs ks ps i < toN zs ks ps i then [(endN zs ks ps i, toN zs ks ps i - endN zs ks ps i)] else [])).sum) = _
    split
    · simp; omega
    · simp; omega
theorem PlanOk.whole : sumL zs ks ks.length + ((gapP zs ks ps).map (·.2)).sum = zs.length := by
  have h1 := h.room ks.length (Nat.le_refl _)
  have h2 := (h.ends ks.length (Nat.le_refl _)).2.2
  unfold gapP betwL
  rw [moveL_len]
  show _ + ((gapsB _ ks.length ++ _).map (·.2)).sum = _
  rw [sum_app, move_end (Nat.le_refl _), move_last]
  show _ + (_ + (List.map (·.2) (if endN zs ks ps ks.length < (zs.length : Int) then [(endN zs ks ps ks.length, (zs.length : Int) - endN zs ks ps ks.length)] else [])).sum) = _
  split
  · simp; omega
  · simp; omega
omit h in
theorem plan_count : ∀ i, i ≤ ks.length → (gapsB (moveL zs ks ps ++ [((zs.length : Int), 0)]) i).length ≤ ((ks.take i).filter fun x => decide (x ∈ ps)).length
  | 0, _ => Nat.zero_le _
  | i + 1, hi => by
    have ih := plan_count i (by omega)
    have e1 : ks.take (i + 1) = ks.take i ++ [nth ks i] := by rw [nth_get _ _ (by omega)]; exact List.take_succ_eq_append_getElem (by omega)
    show (gapsB _ i ++ _).length ≤ _
    rw [move_end (by omega), move_nth (by omega), e1, List.filter_append, List.length_append, List.length_append]
    show _ + (if endN zs ks ps i < toN zs ks ps i then [(endN zs ks ps i, toN zs ks ps i - endN zs ks ps i)] else []).length ≤ _
    split
    · rename_i h1
      have h2 : nth ks i ∈ ps := by
        by_cases h2 : nth ks i ∈ ps
        · exact h2
        · rw [toN_move h2] at h1; omega
      rw [List.filter_cons_of_pos (by simpa using h2)]
      simp; omega
    · simp; omega
/-- At most as many gaps as pinned ones, and one. -/
theorem PlanOk.few : (gapP zs ks ps).length ≤ ps.length + 1 := by
  have h1 := plan_count (zs := zs) (ks := ks) (ps := ps) ks.length (Nat.le_refl _)
  rw [List.take_length] at h1
  have h2 : (ks.filter fun x => decide (x ∈ ps)).length ≤ ps.length :=
    sub_length ((h.kr.imp fun h e => by omega : ks.Nodup).filter _) fun x hx => by simpa using (List.mem_filter.1 hx).2
  unfold gapP betwL
  rw [moveL_len]
  show (gapsB _ ks.length ++ _).length ≤ _
  rw [List.length_append]
  split
  · simp; omega
  · simp; omega
end
end
/-- What the first 'j' gaps take. -/
def gapS (l : List (Int × Int)) : Nat → Int
  | 0 => 0
  | j + 1 => gapS l j + (nthG l j).2
theorem gapS_take (l : List (Int × Int)) : ∀ j, j ≤ l.length → gapS l j = ((l.take j).map (·.2)).sum
  | 0, _ => rfl
  | j + 1, hj => by
    rw [List.take_succ_eq_append_getElem (by omega), sum_app, ← gapS_take l j (by omega), ← nthG_get _ _ (by omega)]
    show gapS l j + (nthG l j).2 = _
    simp
theorem gapS_all (l : List (Int × Int)) : gapS l l.length = (l.map (·.2)).sum := by rw [gapS_take l _ (Nat.le_refl _), List.take_length]
section
variable {zs ks ps : List Int}
theorem PlanOk.some_ (h : PlanOk zs ks ps) : ∀ i, i ≤ ks.length → 0 ≤ sumL zs ks i ∧ sumL zs ks i ≤ endN zs ks ps i
  | 0, _ => ⟨Int.le_refl _, Int.le_refl _⟩
  | i + 1, hi => by
    have ih := PlanOk.some_ h i (by omega)
    have h1 := h.to (i := i) (by omega)
    have h2 := h.fits (i := i) (by omega)
    show 0 ≤ sumL zs ks i + lgI zs (nth ks i) ∧ sumL zs ks i + lgI zs (nth ks i) ≤ _
    rw [endN_succ]
    omega
theorem gapsB_pos (l : List (Int × Int)) : ∀ i, ∀ x ∈ gapsB l i, 0 ≤ x.2
  | 0, x, hx => by cases hx
  | i + 1, x, hx => by
    rcases List.mem_append.1 hx with h | h
    · exact gapsB_pos l i x h
    · split at h
      · rename_i h1
        rw [List.mem_singleton.1 h]
        show 0 ≤ (nthG l i).1 - bEnd l i
        omega
      · cases h
theorem gapS_pos {l : List (Int × Int)} (h : ∀ x ∈ l, 0 ≤ x.2) : ∀ {i j : Nat}, i ≤ j → j ≤ l.length → gapS l i ≤ gapS l j ∧ 0 ≤ gapS l i
  | i, 0, hij, _ => by obtain rfl : i = 0 := by omega
                       exact ⟨Int.le_refl _, Int.le_refl _⟩
  | i, j + 1, hij, hj => by
    have hz : 0 ≤ (nthG l j).2 := h _ (by rw [nthG_get _ _ (by omega)]; exact List.getElem_mem _)
    rcases Nat.lt_or_ge i (j + 1) with h1 | h1
    · have := gapS_pos h (i := i) (j := j) (by omega) (by omega)
      show gapS l i ≤ gapS l j + (nthG l j).2 ∧ _
      omega
    · obtain rfl : i = j + 1 := by omega
      have := gapS_pos h (i := j) (j := j) (Nat.le_refl _) (by omega)
      show _ ∧ 0 ≤ gapS l j + (nthG l j).2
      exact ⟨Int.le_refl _, by omega⟩
end
end Go.Proofs.Ytjefbekdjgmmbaa
namespace Go.Proofs.Ytjefbekdjgmmbaa
open Go.RowKit
/-- The number of a word in a list. -/
def plN : List Int → Int → Nat
  | [], _ => 0
  | y :: ys, x => if y = x then 0 else plN ys x + 1
theorem plN_in : ∀ {ks : List Int} {x : Int}, x ∈ ks → plN ks x < ks.length ∧ nth ks (plN ks x) = x
  | [], _, h => by cases h
  | y :: ys, x, h => by
    unfold plN
    by_cases e : y = x
    · rw [if_pos e]; exact ⟨by simp, e⟩
    · rw [if_neg e]
      obtain ⟨h1, h2⟩ := plN_in (ks := ys) ((List.mem_cons.1 h).resolve_left fun h => e h.symm)
      exact ⟨by simp; omega, h2⟩
/-- Where a reference, a reference's word goes. -/
def trI (zs ks ps : List Int) (y : Int) : Int := if y < 0 then y else toN zs ks ps (plN ks y)
def trW (zs ks ps : List Int) (v : Int) : Int := if v = 0 then 0 else toN zs ks ps (plN ks (v - 1)) + 1
/-- The old, the new word of number 'i'. -/
def kn (ks : List Int) (i : Nat) : Nat := (nth ks i).toNat
def tn (zs ks ps : List Int) (i : Nat) : Nat := (toN zs ks ps i).toNat
/-- Word 'd' of object number 'i', moved. -/
def objW (zs ks ps : List Int) (i d : Nat) : Int := if 1 ≤ d ∧ d ≤ (vR (nth zs (kn ks i))).toNat then trW zs ks ps (nth zs (kn ks i + d)) else nth zs (kn ks i + d)
/-- Which of them takes word 'k' in the end. -/
def owner (zs ks ps : List Int) (k : Nat) : Option Nat := (List.range ks.length).find? fun j => decide (toN zs ks ps j ≤ k ∧ (k : Int) < endN zs ks ps (j + 1))
/-- Word 'k' when the first 'i' of them and 'd' words of the next are laid. -/
def wAt (zs ks ps : List Int) (i d k : Nat) : Int :=
  match owner zs ks ps k with
  | some j => if j < i ∨ (j = i ∧ k < tn zs ks ps i + d) then objW zs ks ps j (k - tn zs ks ps j) else 0
  | none => 0
def slidAt (zs ks ps : List Int) (i d : Nat) : List Int := (List.range zs.length).map (wAt zs ks ps i d)
/-- All of them are laid; the gaps are one object each. -/
def slidL (zs ks ps : List Int) : List Int := joinTo (slidAt zs ks ps ks.length 0) (gapP zs ks ps)
/-- All references are kept. -/
def heldB (zs ks : List Int) : Bool := ks.all fun x => (nxOf zs x).all fun y => decide (y < 0 ∨ y ∈ ks)
/-- The first error. -/
def slideE (zs ks ps : List Int) : Int := if planE zs ks ps = 0 then (if heldB zs ks = true then 0 else 8) else planE zs ks ps
section
variable {zs ks ps : List Int} {i j d k : Nat}
theorem heldB_iff : heldB zs ks = true ↔ ∀ x ∈ ks, ∀ y ∈ nxOf zs x, y < 0 ∨ y ∈ ks := by unfold heldB; simp
theorem slideE_plan (h : planE zs ks ps ≠ 0) : slideE zs ks ps = planE zs ks ps := if_neg h
theorem slideE_held (h : planE zs ks ps = 0) (h1 : heldB zs ks = false) : slideE zs ks ps = 8 := by unfold slideE; rw [if_pos h, if_neg (by simp [h1])]
theorem slideE_ok (h : planE zs ks ps = 0) (h1 : heldB zs ks = true) : slideE zs ks ps = 0 := by unfold slideE; rw [if_pos h, if_pos h1]
theorem slidAt_len : (slidAt zs ks ps i d).length = zs.length := by simp [slidAt]
theorem slidAt_nth (hk : k < zs.length) : nth (slidAt zs ks ps i d) k = wAt zs ks ps i d k := by
  rw [nth_get _ _ (by rw [slidAt_len]; exact hk)]; simp [slidAt]
theorem wAt_some (h : owner zs ks ps k = some j) : wAt zs ks ps i d k = if j < i ∨ (j = i ∧ k < tn zs ks ps i + d) then objW zs ks ps j (k - tn zs ks ps j) else 0 := by unfold wAt; rw [h]
theorem wAt_none (h : owner zs ks ps k = none) : wAt zs ks ps i d k = 0 := by unfold wAt; rw [h]
theorem owner_some (h : owner zs ks ps k = some j) : j < ks.length ∧ toN zs ks ps j ≤ k ∧ (k : Int) < endN zs ks ps (j + 1) := by
  have h1 := List.mem_of_find?_eq_some h
  have h2 := List.find?_some h
  rw [List.mem_range] at h1
  rw [decide_eq_true_eq] at h2
  exact ⟨h1, h2⟩
section
variable (h : PlanOk zs ks ps)
include h
/-- The numbers of an object. -/
theorem PlanOk.nat (hi : i < ks.length) : (tn zs ks ps i : Int) = toN zs ks ps i ∧ (kn ks i : Int) = nth ks i ∧ kn ks i ∈ begins zs 0 ∧ vF (nth zs (kn ks i)) = false ∧ 1 ≤ longN zs (kn ks i) ∧ tn zs ks ps i + longN zs (kn ks i) ≤ zs.length ∧ kn ks i + longN zs (kn ks i) ≤ zs.length ∧ endN zs ks ps (i + 1) = (tn zs ks ps i + longN zs (kn ks i) : Nat) := by
  have h1 := h.fits hi
  have h2 := h.live hi
  have h3 := live_lg h2
  obtain ⟨s, hs, hf, e⟩ := lives_mem.1 h2
  have e1 : kn ks i = s := by unfold kn; omega
  have e2 : lgI zs (nth ks i) = (longN zs (kn ks i) : Int) := rfl
  have e3 : (tn zs ks ps i : Int) = toN zs ks ps i := by unfold tn; omega
  rw [e2] at h1 h3
  refine ⟨e3, by omega, by rw [e1]; exact hs, by rw [e1]; exact hf, by omega, by omega, by omega, ?_⟩
  rw [endN_succ, e2]
  omega
theorem PlanOk.one (hi : i < ks.length) (hj : j < ks.length) (h1 : tn zs ks ps i ≤ k) (h2 : k < tn zs ks ps i + longN zs (kn ks i)) (h3 : tn zs ks ps j ≤ k) (h4 : k < tn zs ks ps j + longN zs (kn ks j)) : i = j := by
  obtain ⟨a1, _, _, _, _, _, _, a2⟩ := h.nat hi
  obtain ⟨b1, _, _, _, _, _, _, b2⟩ := h.nat hj
  rcases Nat.lt_trichotomy i j with hh | hh | hh
  · have := h.up (i := i + 1) (j := j) hh (by omega)
    have := h.to hj
    omega
  · exact hh
  · have := h.up (i := j + 1) (j := i) hh (by omega)
    have := h.to hi
    omega
theorem PlanOk.owner_at (hi : i < ks.length) (h1 : tn zs ks ps i ≤ k) (h2 : k < tn zs ks ps i + longN zs (kn ks i)) : owner zs ks ps k = some i := by
  obtain ⟨a1, _, _, _, _, _, _, a2⟩ := h.nat hi
  cases ho : owner zs ks ps k with
  | none =>
    have := (List.find?_eq_none.1 ho) i (List.mem_range.2 hi)
    rw [decide_eq_true_eq] at this
    exact absurd ⟨by omega, by omega⟩ this
  | some j =>
    obtain ⟨hj, h3, h4⟩ := owner_some ho
    obtain ⟨b1, _, _, _, _, _, _, b2⟩ := h.nat hj
    rw [h.one hi hj h1 h2 (by omega) (by omega)]
theorem PlanOk.owner_in (ho : owner zs ks ps k = some j) : j < ks.length ∧ tn zs ks ps j ≤ k ∧ k < tn zs ks ps j + longN zs (kn ks j) := by
  obtain ⟨hj, h3, h4⟩ := owner_some ho
  obtain ⟨b1, _, _, _, _, _, _, b2⟩ := h.nat hj
  exact ⟨hj, by omega, by omega⟩
omit h in
theorem plan_free_iff : freeP zs ks ps k = true ↔ owner zs ks ps k = none := by
  cases ho : owner zs ks ps k with
  | none =>
    refine ⟨fun _ => rfl, fun _ => ?_⟩
    unfold freeP
    rw [Bool.not_eq_true', List.any_eq_false]
    exact fun j hj => (List.find?_eq_none.1 ho) j hj
  | some j =>
    obtain ⟨hj, h3, h4⟩ := owner_some ho
    rw [plan_taken hj h3 h4]
    exact ⟨(fun hc => by cases hc), (fun hc => by cases hc)⟩
/-- An object is laid. -/
theorem PlanOk.laid (hi : i < ks.length) : slidAt zs ks ps i (longN zs (kn ks i)) = slidAt zs ks ps (i + 1) 0 := by
  refine list_ext (by rw [slidAt_len, slidAt_len]) fun k => ?_
  by_cases hk : k < zs.length
  · rw [slidAt_nth hk, slidAt_nth hk]
    cases ho : owner zs ks ps k with
    | none => rw [wAt_none ho, wAt_none ho]
    | some j =>
      obtain ⟨hj, h1, h2⟩ := h.owner_in ho
      rw [wAt_some ho, wAt_some ho]
      by_cases hc : j ≤ i
      · rw [if_pos, if_pos (.inl (by omega))]
        rcases Nat.lt_or_eq_of_le hc with hc | hc
        · exact .inl hc
        · subst hc; exact .inr ⟨rfl, h2⟩
      · rw [if_neg, if_neg]
        · rintro (hc2 | hc2)
          · omega
          · obtain ⟨rfl, hc3⟩ := hc2
            omega
        · rintro (hc2 | hc2) <;> omega
  · rw [nth_out (by rw [slidAt_len]; omega), nth_out (by rw [slidAt_len]; omega)]
omit h in
theorem slidAt_zero : slidAt zs ks ps 0 0 = List.replicate zs.length 0 := by
  refine list_ext (by rw [slidAt_len, List.length_replicate]) fun k => ?_
  rw [nth_replicate]
  by_cases hk : k < zs.length
  · rw [slidAt_nth hk]
    cases ho : owner zs ks ps k with
    | none => rw [wAt_none ho]
    | some j =>
      rw [wAt_some ho, if_neg]
      rintro (hc | ⟨rfl, hc⟩)
      · omega
      · obtain ⟨_, h1, _⟩ := owner_some ho
        unfold tn at hc
        omega
  · rw [nth_out (by rw [slidAt_len]; omega)]
theorem PlanOk.runs : Runs (freeP zs ks ps) zs.length (gapP zs ks ps) := by rw [← h.all]; exact runs_ok _ _
theorem PlanOk.gap_in (hj : j < (gapP zs ks ps).length) (h1 : (nthG (gapP zs ks ps) j).1 ≤ k) (h2 : (k : Int) < (nthG (gapP zs ks ps) j).1 + (nthG (gapP zs ks ps) j).2) : k < zs.length ∧ freeP zs ks ps k = true := by
  have hp := h.runs.pos j hj
  have hk : k < zs.length := by omega
  exact ⟨hk, (h.runs.all k hk).2 ⟨j, hj, h1, h2⟩⟩
theorem PlanOk.gaps_fit : ∀ r ∈ gapP zs ks ps, 0 ≤ r.1 ∧ 0 ≤ r.2 ∧ r.1 + r.2 ≤ (slidAt zs ks ps ks.length 0).length := fun r hr => by
  obtain ⟨j, hj, e⟩ := List.getElem_of_mem hr
  have := h.runs.pos j hj
  rw [nthG_get _ _ hj, e] at this
  rw [slidAt_len]
  omega
theorem PlanOk.slid_len : (slidL zs ks ps).length = zs.length := by
  have : ∀ {m : List (Int × Int)} {us : List Int}, (∀ r ∈ m, 0 ≤ r.1 ∧ 0 ≤ r.2 ∧ r.1 + r.2 ≤ us.length) → (joinTo us m).length = us.length := by
    intro m
    unfold joinTo
    induction m with
    | nil => intro us _; rfl
    | cons r m ih =>
      intro us h
      have h0 := h r List.mem_cons_self
      have e : (emptyL us r.1.toNat r.2.toNat).length = us.length := emptyL_len (by omega)
      rw [List.foldl_cons, ih (fun s hs => by rw [e]; exact h s (List.mem_cons_of_mem _ hs)), e]
  unfold slidL
  rw [this h.gaps_fit, slidAt_len]
/-- The words of the objects. -/
theorem PlanOk.slid_obj (hi : i < ks.length) (hd : d < longN zs (kn ks i)) : nth (slidL zs ks ps) (tn zs ks ps i + d) = objW zs ks ps i d := by
  obtain ⟨a1, _, _, _, _, a3, _, a2⟩ := h.nat hi
  have ho := h.owner_at hi (k := tn zs ks ps i + d) (by omega) (by omega)
  unfold slidL
  rw [joinTo_keep h.gaps_fit, slidAt_nth (by omega), wAt_some ho, if_pos (.inl hi)]
  · congr 1; omega
  · intro r hr hc
    obtain ⟨j, hj, e⟩ := List.getElem_of_mem hr
    rw [← e, ← nthG_get _ _ hj] at hc
    have := (h.gap_in hj hc.1 hc.2).2
    rw [plan_free_iff, ho] at this
    cases this
/-- The words of the gaps. -/
theorem PlanOk.slid_gap (hj : j < (gapP zs ks ps).length) (h1 : (nthG (gapP zs ks ps) j).1 ≤ k) (h2 : (k : Int) < (nthG (gapP zs ks ps) j).1 + (nthG (gapP zs ks ps) j).2) :
    nth (slidL zs ks ps) k = if (nthG (gapP zs ks ps) j).1 = k then fWord (nthG (gapP zs ks ps) j).2.toNat else 0 := by
  unfold slidL
  exact joinTo_in (f := freeP zs ks ps) (by rw [slidAt_len]; exact h.runs) hj h1 h2
/-- A word lies in an object or in a gap. -/
theorem PlanOk.cover (hk : k < zs.length) : (∃ i d, i < ks.length ∧ d < longN zs (kn ks i) ∧ k = tn zs ks ps i + d) ∨ (∃ j, j < (gapP zs ks ps).length ∧ (nthG (gapP zs ks ps) j).1 ≤ k ∧ (k : Int) < (nthG (gapP zs ks ps) j).1 + (nthG (gapP zs ks ps) j).2) := by
  cases ho : owner zs ks ps k with
  | none => exact .inr ((h.runs.all k hk).1 (plan_free_iff.2 ho))
  | some j =>
    obtain ⟨hj, h1, h2⟩ := h.owner_in ho
    exact .inl ⟨j, k - tn zs ks ps j, hj, by omega, by omega⟩
theorem PlanOk.gap_len (_ : j < (gapP zs ks ps).length) : (joinTo (slidAt zs ks ps ks.length 0) ((gapP zs ks ps).take j)).length = zs.length := by
  have : ∀ {m : List (Int × Int)} {us : List Int}, (∀ r ∈ m, 0 ≤ r.1 ∧ 0 ≤ r.2 ∧ r.1 + r.2 ≤ us.length) → (joinTo us m).length = us.length := by
    intro m
    unfold joinTo
    induction m with
    | nil => intro us _; rfl
    | cons r m ih =>
      intro us h
      have h0 := h r List.mem_cons_self
      have e : (emptyL us r.1.toNat r.2.toNat).length = us.length := emptyL_len (by omega)
      rw [List.foldl_cons, ih (fun s hs => by rw [e]; exact h s (List.mem_cons_of_mem _ hs)), e]
  rw [this fun r hr => h.gaps_fit r (List.mem_of_mem_take hr), slidAt_len]
/-- The first gaps are one object each. -/
theorem PlanOk.gapAt (hj : j < (gapP zs ks ps).length) : (joinTo (slidAt zs ks ps ks.length 0) ((gapP zs ks ps).take j)).set (nthG (gapP zs ks ps) j).1.toNat (fWord (nthG (gapP zs ks ps) j).2.toNat) = joinTo (slidAt zs ks ps ks.length 0) ((gapP zs ks ps).take (j + 1)) := by
  have hp := h.runs.pos j hj
  have hlen : (joinTo (slidAt zs ks ps ks.length 0) ((gapP zs ks ps).take j)).length = zs.length := by
    have : ∀ {m : List (Int × Int)} {us : List Int}, (∀ r ∈ m, 0 ≤ r.1 ∧ 0 ≤ r.2 ∧ r.1 + r.2 ≤ us.length) → (joinTo us m).length = us.length := by
      intro m
      unfold joinTo
      induction m with
      | nil => intro us _; rfl
      | cons r m ih =>
        intro us h
        have h0 := h r List.mem_cons_self
        have e : (emptyL us r.1.toNat r.2.toNat).length = us.length := emptyL_len (by omega)
        rw [List.foldl_cons, ih (fun s hs => by rw [e]; exact h s (List.mem_cons_of_mem _ hs)), e]
    rw [this fun r hr => h.gaps_fit r (List.mem_of_mem_take hr), slidAt_len]
  have e1 : (gapP zs ks ps).take (j + 1) = (gapP zs ks ps).take j ++ [nthG (gapP zs ks ps) j] := by rw [nthG_get _ _ hj]; exact List.take_succ_eq_append_getElem hj
  have e2 : joinTo (slidAt zs ks ps ks.length 0) ((gapP zs ks ps).take (j + 1)) = emptyL (joinTo (slidAt zs ks ps ks.length 0) ((gapP zs ks ps).take j)) (nthG (gapP zs ks ps) j).1.toNat (nthG (gapP zs ks ps) j).2.toNat := by
    rw [e1]; unfold joinTo; rw [List.foldl_append]; rfl
  rw [e2]
  unfold emptyL
  rw [if_neg (by omega)]
  refine list_ext (by rw [List.length_set, putL_len (by rw [hlen]; omega)]) fun k => ?_
  rw [nth_putL _ (by omega) (by rw [hlen]; omega), nth_set _ (by rw [hlen]; omega)]
  by_cases hk : k = (nthG (gapP zs ks ps) j).1.toNat
  · rw [if_pos hk, if_pos hk]
  · rw [if_neg hk, if_neg hk]
    by_cases hkk : (nthG (gapP zs ks ps) j).1.toNat ≤ k ∧ k < (nthG (gapP zs ks ps) j).1.toNat + (nthG (gapP zs ks ps) j).2.toNat
    · rw [if_pos hkk]
      obtain ⟨hkn, hfr⟩ := h.gap_in (k := k) hj (by omega) (by omega)
      rw [joinTo_keep (fun r hr => h.gaps_fit r (List.mem_of_mem_take hr)), slidAt_nth hkn, wAt_none (plan_free_iff.1 hfr)]
      intro r hr hc
      obtain ⟨q, hq, e⟩ := List.getElem_of_mem hr
      have hq' : q < (gapP zs ks ps).length ∧ q < j := by rw [List.length_take] at hq; omega
      rw [List.getElem_take] at e
      have e' : nthG (gapP zs ks ps) q = r := by rw [nthG_get _ _ hq'.1]; exact e
      rw [← e'] at hc
      have := runs_one h.runs hj hq'.1 (k := (k : Int)) (by omega) (by omega) hc.1 (by omega)
      omega
    · rw [if_neg hkk]
omit h in
theorem slid_gaps_all : joinTo (slidAt zs ks ps ks.length 0) ((gapP zs ks ps).take (gapP zs ks ps).length) = slidL zs ks ps := by rw [List.take_length]; rfl
/-- Where its objects begin. -/
def SlidS (zs ks ps : List Int) (s : Nat) : Prop := (∃ i, i < ks.length ∧ tn zs ks ps i = s) ∨ ∃ j, j < (gapP zs ks ps).length ∧ (nthG (gapP zs ks ps) j).1 = s
theorem PlanOk.taken_obj (hi : i < ks.length) (h1 : tn zs ks ps i ≤ k) (h2 : k < tn zs ks ps i + longN zs (kn ks i)) : freeP zs ks ps k = false := by
  cases hf : freeP zs ks ps k
  · rfl
  · rw [plan_free_iff, h.owner_at hi h1 h2] at hf; cases hf
omit h in
theorem objW_head : objW zs ks ps i 0 = nth zs (kn ks i) := by unfold objW; rw [if_neg (by omega)]; rfl
theorem PlanOk.slid_head (hi : i < ks.length) : nth (slidL zs ks ps) (tn zs ks ps i) = nth zs (kn ks i) := by
  obtain ⟨_, _, _, _, a5, _, _, _⟩ := h.nat hi
  have := h.slid_obj hi (d := 0) (by omega)
  rwa [objW_head] at this
theorem PlanOk.slid_gap0 (hj : j < (gapP zs ks ps).length) : ∃ s L : Nat, (nthG (gapP zs ks ps) j).1 = s ∧ (nthG (gapP zs ks ps) j).2 = L ∧ 0 < L ∧ s + L ≤ zs.length ∧ nth (slidL zs ks ps) s = fWord L := by
  have hp := h.runs.pos j hj
  obtain ⟨s, hs⟩ := Int.eq_ofNat_of_zero_le hp.2.1
  obtain ⟨L, hL⟩ := Int.eq_ofNat_of_zero_le (by omega : 0 ≤ (nthG (gapP zs ks ps) j).2)
  refine ⟨s, L, hs, hL, by omega, by omega, ?_⟩
  rw [h.slid_gap hj (by omega) (by omega), if_pos hs, hL]
  rfl
theorem PlanOk.slid_tiles : Tiles (slidL zs ks ps) (SlidS zs ks ps) := by
  have h256 := arena_len h.arena
  have hR := h.runs
  have part : ∀ {s : Nat}, SlidS zs ks ps s → s < zs.length → ∃ L : Nat, sLong (nth (slidL zs ks ps) s) = L ∧ vBad (nth (slidL zs ks ps) s) = false ∧ s + L ≤ zs.length ∧ 0 < L ∧
      ((∃ i, i < ks.length ∧ tn zs ks ps i = s ∧ L = longN zs (kn ks i)) ∨ ∃ j, j < (gapP zs ks ps).length ∧ (nthG (gapP zs ks ps) j).1 = s ∧ (nthG (gapP zs ks ps) j).2 = L) := by
    intro s hS hs
    rcases hS with ⟨i, hi, rfl⟩ | ⟨j, hj, he⟩
    · obtain ⟨_, _, a3, _, a5, a6, _, _⟩ := h.nat hi
      rw [h.slid_head hi]
      exact ⟨_, rfl, (stepOk_iff.1 (begins_mem a3).2.2).1, a6, a5, .inl ⟨i, hi, rfl, rfl⟩⟩
    · obtain ⟨s', L, e1, e2, hL, hsl, hw⟩ := h.slid_gap0 hj
      obtain rfl : s' = s := by omega
      obtain ⟨f1, f2, f3, f4⟩ := fWord_facts hL (by omega)
      rw [hw]
      exact ⟨L, f3, f1, hsl, hL, .inr ⟨j, hj, he, e2⟩⟩
  refine ⟨fun h0 => ?_, fun s hS hs => ?_, fun s hS hs hn => ?_, fun s t hS h1 h2 h3 hT => ?_⟩
  · rw [h.slid_len] at h0
    rcases h.cover h0 with ⟨i, d, hi, hd, he⟩ | ⟨j, hj, h1, h2⟩
    · exact .inl ⟨i, hi, by omega⟩
    · exact .inr ⟨j, hj, by have := hR.pos j hj; omega⟩
  · rw [h.slid_len] at hs
    obtain ⟨L, e, hb, hl, _⟩ := part hS hs
    exact stepOk_iff.2 ⟨hb, by rw [e, h.slid_len]; exact hl⟩
  · rw [h.slid_len] at hs hn
    obtain ⟨L, e, hb, hl, hL, hp⟩ := part hS hs
    rw [e] at hn ⊢
    rcases h.cover hn with ⟨i', d', hi', hd', he⟩ | ⟨j', hj', g1, g2⟩
    · rcases Nat.eq_zero_or_pos d' with hz | hz
      · exact .inl ⟨i', hi', by omega⟩
      · exfalso
        have ho := h.taken_obj hi' (k := s + L - 1) (by omega) (by omega)
        rcases hp with ⟨i, hi, rfl, rfl⟩ | ⟨j, hj, e1, e2⟩
        · have := h.one hi hi' (k := tn zs ks ps i + longN zs (kn ks i) - 1) (by omega) (by omega) (by omega) (by omega)
          subst this
          omega
        · have := (h.gap_in (k := s + L - 1) hj (by omega) (by omega)).2
          rw [ho] at this; cases this
    · by_cases hz : (nthG (gapP zs ks ps) j').1 = ((s + L : Nat) : Int)
      · exact .inr ⟨j', hj', hz⟩
      · exfalso
        have hf := (h.gap_in (k := s + L - 1) hj' (by omega) (by omega)).2
        rcases hp with ⟨i, hi, rfl, rfl⟩ | ⟨j, hj, e1, e2⟩
        · rw [h.taken_obj hi (by omega) (by omega)] at hf; cases hf
        · have := runs_one hR hj hj' (k := ((s + L - 1 : Nat) : Int)) (by omega) (by omega) (by omega) (by omega)
          subst this
          omega
  · rw [h.slid_len] at h3
    obtain ⟨L, e, hb, hl, hL, hp⟩ := part hS (by omega)
    rw [e] at h2
    obtain ⟨L', e', hb', hl', hL', hp'⟩ := part hT h3
    rcases hp with ⟨i, hi, rfl, rfl⟩ | ⟨j, hj, e1, e2⟩
    · rcases hp' with ⟨i', hi', rfl, rfl⟩ | ⟨j', hj', e3, e4⟩
      · have := h.one hi hi' (k := tn zs ks ps i') (by omega) (by omega) (by omega) (by omega)
        subst this
        omega
      · have hf := (h.gap_in (k := t) hj' (by omega) (by omega)).2
        rw [h.taken_obj hi (by omega) (by omega)] at hf; cases hf
    · have hf := (h.gap_in (k := t) hj (by omega) (by omega)).2
      rcases hp' with ⟨i', hi', rfl, rfl⟩ | ⟨j', hj', e3, e4⟩
      · rw [h.taken_obj hi' (by omega) (by omega)] at hf; cases hf
      · have := runs_one hR hj hj' (k := (t : Int)) (by omega) (by omega) (by omega) (by omega)
        subst this
        omega
theorem PlanOk.slid_begins (s : Nat) : s ∈ begins (slidL zs ks ps) 0 ↔ SlidS zs ks ps s ∧ s < zs.length := by
  rw [h.slid_tiles.mem, h.slid_len]
/-- Its objects that are not free. -/
theorem PlanOk.slid_live (x : Int) : x ∈ livesI (slidL zs ks ps) ↔ x ∈ toL zs ks ps := by
  have h256 := arena_len h.arena
  rw [lives_mem]
  constructor
  · rintro ⟨s, hs, hf, rfl⟩
    obtain ⟨hS, hl⟩ := (h.slid_begins s).1 hs
    rcases hS with ⟨i, hi, rfl⟩ | ⟨j, hj, he⟩
    · obtain ⟨a1, _⟩ := h.nat hi
      rw [a1]
      exact List.mem_map.2 ⟨i, List.mem_range.2 hi, rfl⟩
    · obtain ⟨s', L, e1, e2, hL, hsl, hw⟩ := h.slid_gap0 hj
      obtain rfl : s' = s := by omega
      rw [hw, (fWord_facts hL (by omega)).2.1] at hf
      cases hf
  · intro hx
    obtain ⟨i, hi, rfl⟩ := List.mem_map.1 hx
    rw [List.mem_range] at hi
    obtain ⟨a1, _, _, a4, _, a6, _, _⟩ := h.nat hi
    exact ⟨tn zs ks ps i, (h.slid_begins _).2 ⟨.inl ⟨i, hi, rfl⟩, by omega⟩, by rw [h.slid_head hi]; exact a4, a1.symm⟩
theorem PlanOk.to_lt (hij : i < j) (hj : j < ks.length) : toN zs ks ps i < toN zs ks ps j := by
  have h1 := h.up (i := i + 1) (j := j) hij (by omega)
  have h2 := h.to hj
  have h3 := h.fits (i := i) (by omega)
  rw [endN_succ] at h1
  omega
theorem PlanOk.to_one (hi : i < ks.length) (hj : j < ks.length) (e : toN zs ks ps i = toN zs ks ps j) : i = j := by
  rcases Nat.lt_trichotomy i j with hh | hh | hh
  · have := h.to_lt hh hj; omega
  · exact hh
  · have := h.to_lt hh hi; omega
theorem PlanOk.to_rise : (toL zs ks ps).Pairwise (· < ·) := by
  rw [List.pairwise_iff_getElem]
  intro a b ha hb hab
  rw [toL_len] at ha hb
  rw [← nth_get _ _ (by rw [toL_len]; exact ha), ← nth_get _ _ (by rw [toL_len]; exact hb)]
  show nth (toTo zs ks ps ks.length) a < nth (toTo zs ks ps ks.length) b
  rw [toTo_nth ha, toTo_nth hb]
  exact h.to_lt hab hb
omit h in
theorem rises_same : ∀ {xs ys : List Int}, xs.Pairwise (· < ·) → ys.Pairwise (· < ·) → (∀ a, a ∈ xs ↔ a ∈ ys) → xs = ys
  | [], [], _, _, _ => rfl
  | [], y :: ys, _, _, h => by have := (h y).2 List.mem_cons_self; cases this
  | x :: xs, [], _, _, h => by have := (h x).1 List.mem_cons_self; cases this
  | x :: xs, y :: ys, hx, hy, h => by
    obtain ⟨hx1, hx2⟩ := List.pairwise_cons.1 hx
    obtain ⟨hy1, hy2⟩ := List.pairwise_cons.1 hy
    have e : x = y := by
      rcases List.mem_cons.1 ((h x).1 List.mem_cons_self) with h1 | h1
      · exact h1
      · rcases List.mem_cons.1 ((h y).2 List.mem_cons_self) with h2 | h2
        · exact h2.symm
        · have := hx1 y h2
          have := hy1 x h1
          omega
    subst e
    rw [rises_same hx2 hy2 fun a => ⟨fun ha => ?_, fun ha => ?_⟩]
    · rcases List.mem_cons.1 ((h a).1 (List.mem_cons_of_mem _ ha)) with h1 | h1
      · have := hx1 a ha; omega
      · exact h1
    · rcases List.mem_cons.1 ((h a).2 (List.mem_cons_of_mem _ ha)) with h1 | h1
      · have := hy1 a ha; omega
      · exact h1
omit h in
/-- Its references. -/
theorem trW_zero : trW zs ks ps 0 = 0 := if_pos rfl
omit h in
theorem trW_ref {q : Nat} (hp : plN ks (nth ks q) = q) (h0 : 0 ≤ nth ks q) : trW zs ks ps (nth ks q + 1) = toN zs ks ps q + 1 := by
  unfold trW
  rw [if_neg (by omega), show nth ks q + 1 - 1 = nth ks q by omega, hp]
theorem PlanOk.pl (hi : i < ks.length) : plN ks (nth ks i) = i := by
  obtain ⟨h1, h2⟩ := plN_in (nth_mem (l := ks) hi)
  rcases Nat.lt_trichotomy (plN ks (nth ks i)) i with hh | hh | hh
  · have := h.rise hh hi; omega
  · exact hh
  · have := h.rise hh h1; omega
omit h in
theorem nth_mapS (f : Int → Int) {l : List Int} {k : Nat} (h : k < l.length) : nth (l.map f) k = f (nth l k) := by
  rw [nth_get _ _ h, nth_get _ _ (by simpa using h), List.getElem_map]
theorem PlanOk.slid_refs (hi : i < ks.length) : refWords (slidL zs ks ps) (tn zs ks ps i) = (refWords zs (kn ks i)).map (trW zs ks ps) := by
  obtain ⟨a1, a2, a3, a4, a5, a6, a7, a8⟩ := h.nat hi
  have hst := (begins_mem a3).2.2
  have hst2 : stepOk (slidL zs ks ps) (tn zs ks ps i) = true := (begins_mem ((h.slid_begins (tn zs ks ps i)).2 ⟨.inl ⟨i, hi, rfl⟩, by omega⟩)).2.2
  have hl := refWords_len hst
  have hl2 := refWords_len hst2
  rw [h.slid_head hi] at hl2
  refine nth_ext (by rw [List.length_map, hl, hl2]) fun d hd => ?_
  rw [hl2] at hd
  have hdl : 1 + d < longN zs (kn ks i) := by show _ < sLong _; unfold sLong; omega
  rw [refWords_at (by rw [h.slid_head hi]; exact hd)]
  have e1 := h.slid_obj hi hdl
  rw [← Nat.add_assoc] at e1
  rw [e1]
  unfold objW
  rw [if_pos ⟨by omega, by omega⟩, ← Nat.add_assoc, ← refWords_at hd, nth_mapS _ (by rw [hl]; exact hd)]
/-- What a kept reference is. -/
theorem PlanOk.kept (hh : heldB zs ks = true) (hi : i < ks.length) {u : Int} (hu : u ∈ refWords zs (kn ks i)) : u = 0 ∨ ∃ q, q < ks.length ∧ u = nth ks q + 1 := by
  obtain ⟨a1, a2, a3, a4, _⟩ := h.nat hi
  obtain ⟨h256, hf, hr⟩ := arErr_iff.1 h.arena
  rcases refsOk_char.1 hr (kn ks i) a3 u hu with h0 | ⟨t, ht, hft, e⟩
  · exact .inl h0
  · right
    have htl := (begins_mem ht).2.1
    have hn : nm u = (t : Int) := by unfold nm; rw [if_neg (by omega)]; omega
    have hy : (t : Int) ∈ nxOf zs (nth ks i) := by
      rw [← hn]
      exact List.mem_map.2 ⟨u, hu, rfl⟩
    have hk := (heldB_iff.1 hh (nth ks i) (nth_mem hi) (t : Int) hy).resolve_left (by omega)
    obtain ⟨q1, q2⟩ := plN_in hk
    exact ⟨_, q1, by rw [q2]; exact e⟩
theorem PlanOk.slid_named (hh : heldB zs ks = true) (hi : i < ks.length) : nxOf (slidL zs ks ps) (toN zs ks ps i) = (nxOf zs (nth ks i)).map (trI zs ks ps) := by
  have h256 := arena_len h.arena
  show (refWords (slidL zs ks ps) (tn zs ks ps i)).map nm = ((refWords zs (kn ks i)).map nm).map (trI zs ks ps)
  rw [h.slid_refs hi, List.map_map, List.map_map]
  refine List.map_congr_left fun u hu => ?_
  show nm (trW zs ks ps u) = trI zs ks ps (nm u)
  rcases h.kept hh hi hu with rfl | ⟨q, hq, rfl⟩
  · rw [trW_zero]
    have : nm 0 = -1 := by decide
    rw [this]
    exact (if_pos (by omega)).symm
  · have h1 := live_lg (h.live hq)
    have h2 := h.fits hq
    have e1 : nm (nth ks q + 1) = nth ks q := by unfold nm; rw [if_neg (by omega)]; omega
    rw [trW_ref (h.pl hq) h1.1, e1]
    have e2 : nm (toN zs ks ps q + 1) = toN zs ks ps q := by unfold nm; rw [if_neg (by omega)]; omega
    rw [e2]
    unfold trI
    rw [if_neg (by omega), h.pl hq]
/-- It is right. -/
theorem PlanOk.slid_arena (hh : heldB zs ks = true) : arErr (slidL zs ks ps) = 0 := by
  have h256 := arena_len h.arena
  refine arErr_iff.2 ⟨by rw [h.slid_len]; exact h256, h.slid_tiles.fine, refsOk_char.2 fun s hs v hv => ?_⟩
  rcases ((h.slid_begins s).1 hs).1 with ⟨i, hi, rfl⟩ | ⟨j, hj, he⟩
  · rw [h.slid_refs hi] at hv
    obtain ⟨u, hu, rfl⟩ := List.mem_map.1 hv
    rcases h.kept hh hi hu with rfl | ⟨q, hq, rfl⟩
    · exact .inl trW_zero
    · right
      obtain ⟨a1, _, _, a4, _, a6, _, _⟩ := h.nat hq
      refine ⟨tn zs ks ps q, (h.slid_begins _).2 ⟨.inl ⟨q, hq, rfl⟩, by omega⟩, by rw [h.slid_head hq]; exact a4, ?_⟩
      rw [trW_ref (h.pl hq) (live_lg (h.live hq)).1, a1]
  · obtain ⟨s', L, e1, e2, hL, hsl, hw⟩ := h.slid_gap0 hj
    obtain rfl : s' = s := by omega
    unfold refWords at hv
    have hR : vR (fWord L) = 0 := (word_of_header (fWord_fault hL (by omega))).2.1
    rw [hw, hR] at hv
    simp at hv
theorem PlanOk.obj_wf (hz : ∀ z ∈ zs, (Lit.int .u64 z).wf = true) (hh : heldB zs ks = true) (hi : i < ks.length) (hd : d < longN zs (kn ks i)) : (Lit.int .u64 (objW zs ks ps i d)).wf = true := by
  have h256 := arena_len h.arena
  obtain ⟨_, _, a3, _, _, _, a7, _⟩ := h.nat hi
  unfold objW
  split
  · rename_i hc
    have hst := (begins_mem a3).2.2
    have hl := refWords_len hst
    have hu : nth zs (kn ks i + d) ∈ refWords zs (kn ks i) := by
      have h1 := refWords_at (zs := zs) (s := kn ks i) (j := d - 1) (by omega)
      rw [show kn ks i + 1 + (d - 1) = kn ks i + d by omega] at h1
      rw [← h1]
      exact nth_mem (by rw [hl]; omega)
    rcases h.kept hh hi hu with e | ⟨q, hq, e⟩
    · rw [e, trW_zero]; decide
    · rw [e, trW_ref (h.pl hq) (live_lg (h.live hq)).1]
      have := h.fits hq
      exact wf_u64.2 (by omega)
  · exact hz _ (nth_mem (by omega))
theorem PlanOk.slid_wf (hz : ∀ z ∈ zs, (Lit.int .u64 z).wf = true) (hh : heldB zs ks = true) : ∀ z ∈ slidL zs ks ps, (Lit.int .u64 z).wf = true := fun z hm => by
  have h256 := arena_len h.arena
  obtain ⟨k, hk, rfl⟩ := mem_nth hm
  rw [h.slid_len] at hk
  rcases h.cover hk with ⟨i, d, hi, hd, rfl⟩ | ⟨j, hj, h1, h2⟩
  · rw [h.slid_obj hi hd]; exact h.obj_wf hz hh hi hd
  · have hp := h.runs.pos j hj
    rw [h.slid_gap hj h1 h2]
    split
    · exact (fWord_facts (n := (nthG (gapP zs ks ps) j).2.toNat) (by omega) (by omega)).2.2.2
    · decide
omit h in
/-- Slid again, with what is there. -/
theorem nth_toL (hi : i < ks.length) : nth (toL zs ks ps) i = toN zs ks ps i := toTo_nth hi
theorem PlanOk.again (hh : heldB zs ks = true) : PlanOk (slidL zs ks ps) (toL zs ks ps) ps :=
  ⟨h.slid_arena hh, h.to_rise, h.pr, fun x hx => (h.slid_live x).2 hx, fun p hp => by
    obtain ⟨q1, q2⟩ := plN_in (h.pk _ hp)
    have e : toN zs ks ps (plN ks p) = p := by rw [toN_pin (by rw [q2]; exact hp), q2]
    exact List.mem_map.2 ⟨plN ks p, List.mem_range.2 q1, e⟩⟩
/-- What is reached stays reached. -/
theorem PlanOk.tr_to (hi : i < ks.length) : trI zs ks ps (nth ks i) = toN zs ks ps i := by
  unfold trI
  rw [if_neg (by have := (live_lg (h.live hi)).1; omega), h.pl hi]
theorem PlanOk.tr_pin {p : Int} (hp : p ∈ ps) : trI zs ks ps p = p := by
  obtain ⟨q1, q2⟩ := plN_in (h.pk _ hp)
  have := h.tr_to q1
  rw [q2, toN_pin (by rw [q2]; exact hp), q2] at this
  exact this
theorem PlanOk.reach (hh : heldB zs ks = true) {fr : List Int} (hfr : ∀ x ∈ fr, x ∈ ks) {x : Int} (hx : Reach (nxOf zs) fr x) : x ∈ ks ∧ Reach (nxOf (slidL zs ks ps)) (fr.map (trI zs ks ps)) (trI zs ks ps x) := by
  refine reach_least (S := fun x => x ∈ ks ∧ Reach (nxOf (slidL zs ks ps)) (fr.map (trI zs ks ps)) (trI zs ks ps x)) (fun x hx => ⟨hfr x hx, .base (List.mem_map.2 ⟨x, hx, rfl⟩)⟩) (fun x hx y hy h0 => ?_) hx
  obtain ⟨hxk, hr⟩ := hx
  have hyk := (heldB_iff.1 hh x hxk y hy).resolve_left (by omega)
  refine ⟨hyk, ?_⟩
  obtain ⟨q1, q2⟩ := plN_in hxk
  obtain ⟨r1, r2⟩ := plN_in hyk
  have e := h.slid_named hh q1
  rw [q2] at e
  have et := h.tr_to q1
  rw [q2] at et
  rw [et] at hr
  refine .step hr ?_ ?_
  · rw [e]; exact List.mem_map.2 ⟨y, hy, rfl⟩
  · have := h.tr_to r1
    rw [r2] at this
    rw [this]
    exact (h.fits r1).1
theorem PlanOk.slid_reach (hz : ∀ z ∈ zs, (Lit.int .u64 z).wf = true) (hh : heldB zs ks = true) {fr : List Int} (hfr : ∀ x ∈ fr, x ∈ ks) (hall : ∀ x ∈ ks, Reach (nxOf zs) fr x) : fromE (slidL zs ks ps) (fr.map (trI zs ks ps)) = 0 ∧ reachL (slidL zs ks ps) (fr.map (trI zs ks ps)) = toL zs ks ps := by
  have hf : fromE (slidL zs ks ps) (fr.map (trI zs ks ps)) = 0 := fromE_ok (h.slid_arena hh) fun y hy => by
    obtain ⟨x, hx, rfl⟩ := List.mem_map.1 hy
    obtain ⟨q1, q2⟩ := plN_in (hfr x hx)
    have := h.tr_to q1
    rw [q2] at this
    rw [this, h.slid_live]
    exact List.mem_map.2 ⟨_, List.mem_range.2 q1, rfl⟩
  refine ⟨hf, rises_same reachL_rise h.to_rise fun y => ⟨fun hy => (h.slid_live y).1 (reachL_lives y hy), fun hy => ?_⟩⟩
  obtain ⟨i, hi, rfl⟩ := List.mem_map.1 hy
  have hi := List.mem_range.1 hi
  rw [reachL_mem (h.slid_wf hz hh) hf, ← h.tr_to hi]
  exact (h.reach hh hfr (hall _ (nth_mem hi))).2
omit h in
/-- A word of an object that may refer to another. -/
theorem ref_word {zs : List Int} (h : arErr zs = 0) {s k : Nat} (hs : s ∈ begins zs 0) (hk : k < (vR (nth zs s)).toNat) : (named zs s).length = (vR (nth zs s)).toNat ∧ ((nth zs (s + 1 + k) = 0 ∧ nth (named zs s) k = -1) ∨ (0 ≤ nth (named zs s) k ∧ nth zs (s + 1 + k) = nth (named zs s) k + 1)) := by
  obtain ⟨h256, hf, hr⟩ := arErr_iff.1 h
  have hl := refWords_len (begins_mem hs).2.2
  have hu : nth (refWords zs s) k = nth zs (s + 1 + k) := refWords_at hk
  have hn : nth (named zs s) k = nm (nth zs (s + 1 + k)) := by
    rw [← hu]
    exact nth_mapS nm (by rw [hl]; exact hk)
  refine ⟨by unfold named; rw [List.length_map, hl], ?_⟩
  rw [hn]
  rcases refsOk_char.1 hr s hs _ (nth_mem (l := refWords zs s) (j := k) (by rw [hl]; exact hk)) with e | ⟨t, ht, _, e⟩
  · rw [hu] at e
    rw [e]
    exact .inl ⟨rfl, by decide⟩
  · rw [hu] at e
    have htl := (begins_mem ht).2.1
    have : nm ((t : Int) + 1) = t := by unfold nm; rw [if_neg (by omega)]; omega
    rw [e, this]
    exact .inr ⟨by omega, rfl⟩
omit h in
/-- What is reached keeps its references. -/
theorem reach_held (hz : ∀ z ∈ zs, (Lit.int .u64 z).wf = true) {fr : List Int} (hf : fromE zs fr = 0) : heldB zs (reachL zs fr) = true := heldB_iff.2 fun x hx y hy => by
  rcases Int.lt_or_le y 0 with h0 | h0
  · exact .inl h0
  · exact .inr ((reachL_mem hz hf).2 (.step ((reachL_mem hz hf).1 hx) hy h0))
omit h in
theorem sumL_all {zs : List Int} : ∀ {ks : List Int} (i : Nat), i ≤ ks.length → sumL zs ks i = (((ks.take i).map Int.toNat).map (longN zs)).sum
  | _, 0, _ => rfl
  | ks, i + 1, hi => by
    rw [List.take_succ_eq_append_getElem (by omega), List.map_append, List.map_append, List.sum_append, Int.natCast_add, ← sumL_all i (by omega), ← nth_get _ _ (by omega)]
    show sumL zs ks i + lgI zs (nth ks i) = _
    simp [lgI]
omit h in
theorem takes_sum {zs fr : List Int} : (takesN zs fr : Int) = sumL zs (reachL zs fr) (reachL zs fr).length := by
  rw [sumL_all _ (Nat.le_refl _), List.take_length]
  unfold takesN
  rw [cnt_covers]
  · rw [List.nodup_iff_pairwise_ne, List.pairwise_map]
    exact List.Pairwise.imp_of_mem (fun {a b} ha hb hab => by have := lives_pos a (reachL_lives a ha); omega) reachL_rise
  · intro s hs
    obtain ⟨x, hx, rfl⟩ := List.mem_map.1 hs
    obtain ⟨t, ht, _, rfl⟩ := lives_mem.1 (reachL_lives x hx)
    rw [Int.toNat_natCast]; exact ht
end
end
/-- The references of the first 'i' are kept. -/
def heldTo (zs ks : List Int) (i : Nat) : Prop := ∀ j, j < i → ∀ y ∈ nxOf zs (nth ks j), y < 0 ∨ y ∈ ks
theorem heldTo_all {zs ks : List Int} (h : heldTo zs ks ks.length) : heldB zs ks = true := heldB_iff.2 fun x hx y hy => by
  obtain ⟨j, hj, rfl⟩ := mem_nth hx
  exact h j hj y hy
theorem heldTo_not {zs ks : List Int} {i : Nat} {y : Int} (hi : i < ks.length) (hy : y ∈ nxOf zs (nth ks i)) (h0 : ¬ y < 0) (hn : y ∉ ks) : heldB zs ks = false := by
  cases hb : heldB zs ks
  · rfl
  · rcases heldB_iff.1 hb _ (nth_mem hi) y hy with h | h
    · exact absurd h h0
    · exact absurd h hn
end Go.Proofs.Ytjefbekdjgmmbaa
namespace Go.Proofs.Ytjefbekdjgmmbaa
open Go.RowKit
theorem small_step : stepOk [1, 1] 0 = true := by decide
theorem small_long : sLong (nth [1, 1] 0) = 2 := by decide
theorem small_begins : begins [1, 1] 0 = [0] := by rw [begins_step (by decide) small_step, small_long, begins_end (by decide)]
theorem small_fine : fine [1, 1] 0 = true := by rw [fine_step (by decide) small_step, small_long]; exact fine_end (by decide)
theorem small_lives : livesI [1, 1] = [0] := by unfold livesI; rw [small_begins]; decide
theorem small_named : named [1, 1] 0 = [0] := by decide
theorem small_wf : ∀ z ∈ ([1, 1] : List Int), (Lit.int .u64 z).wf = true := by decide
theorem small_arena : arErr [1, 1] = 0 := by
  refine arErr_ok (spErr_ok (by decide) small_fine) ((refsOk_iff small_wf (by decide)).2 fun s hs _ x hx => ?_)
  rw [small_begins] at hs
  rw [List.mem_singleton.1 hs, small_named] at hx
  rw [small_lives]
  exact .inr hx
theorem small_from : fromE [1, 1] [0] = 0 := fromE_ok small_arena (by rw [small_lives]; simp)
set_option maxHeartbeats 400000 in
theorem small_any (w : World) : Calls Try.prog 51 #[] w fun e w' => e = .returned (.slice (some ⟨w.heap.size, 0, none⟩) 2 2) ∧ w.alloc (.cells #[.int .u64 1, .int .u64 1] 47) = w' := by
  go_enter Try.func51, Try.ntmps51
  go_wp2
  go_ret
  exact ⟨rfl, rfl⟩
theorem Arr.later {k : IntKind} {w w' : World} {A : Option Addr} {n : Nat} {zs : List Int} (h : Arr k w w.heap.size A n zs) (hb : Below w.heap.size w w') : Arr k w' w'.heap.size A n zs := (h.below hb (Nat.le_refl _)).more hb.size
theorem bthen {w w1 w2 : World} (h : Below w.heap.size w w1) (h' : Below w1.heap.size w1 w2) : Below w.heap.size w w2 := h.trans (h'.mono h.size)
end Go.Proofs.Ytjefbekdjgmmbaa
namespace Go.Proofs.Ytjefbekdjgmmbaa
open Go.RowKit
/-- What Slide answers. -/
def slideB (zs ks ps : List Int) : List Int := if slideE zs ks ps = 0 then slidL zs ks ps else []
def slideT (zs ks ps : List Int) : List Int := if slideE zs ks ps = 0 then toL zs ks ps else []
/-- What Clean keeps, its error, what it answers. -/
def keepL (zs fr ps : List Int) : List Int := reachL zs (fr ++ ps)
def cleanE (zs fr ps : List Int) : Int := if fromE zs (fr ++ ps) = 0 then (if riseB ps = true then 0 else 3) else fromE zs (fr ++ ps)
def cleanB (zs fr ps : List Int) : List Int := if cleanE zs fr ps = 0 then slidL zs (keepL zs fr ps) ps else []
def cleanN (zs fr ps : List Int) : List Int := if cleanE zs fr ps = 0 then fr.map (trI zs (keepL zs fr ps) ps) else []
section
variable {zs fr ps : List Int}
theorem slideB_ok {ks : List Int} (h : slideE zs ks ps = 0) : slideB zs ks ps = slidL zs ks ps := if_pos h
theorem slideB_bad {ks : List Int} (h : slideE zs ks ps ≠ 0) : slideB zs ks ps = [] := if_neg h
theorem slideT_ok {ks : List Int} (h : slideE zs ks ps = 0) : slideT zs ks ps = toL zs ks ps := if_pos h
theorem slideT_bad {ks : List Int} (h : slideE zs ks ps ≠ 0) : slideT zs ks ps = [] := if_neg h
theorem cleanB_ok (h : cleanE zs fr ps = 0) : cleanB zs fr ps = slidL zs (keepL zs fr ps) ps := if_pos h
theorem cleanB_bad (h : cleanE zs fr ps ≠ 0) : cleanB zs fr ps = [] := if_neg h
theorem cleanN_ok (h : cleanE zs fr ps = 0) : cleanN zs fr ps = fr.map (trI zs (keepL zs fr ps) ps) := if_pos h
theorem cleanN_bad (h : cleanE zs fr ps ≠ 0) : cleanN zs fr ps = [] := if_neg h
theorem cleanE_zero : cleanE zs fr ps = 0 ↔ fromE zs (fr ++ ps) = 0 ∧ riseB ps = true := by
  unfold cleanE
  constructor
  · intro h
    split at h
    · rename_i h0
      split at h
      · rename_i h1; exact ⟨h0, h1⟩
      · omega
    · rename_i h0; exact absurd h h0
  · rintro ⟨h0, h1⟩
    rw [if_pos h0, if_pos h1]
/-- What Clean keeps may be slid. -/
structure CleanOk (zs fr ps : List Int) : Prop where
  ok : PlanOk zs (keepL zs fr ps) ps
  held : heldB zs (keepL zs fr ps) = true
  sub : ∀ x ∈ fr ++ ps, x ∈ keepL zs fr ps
  all : ∀ x ∈ keepL zs fr ps, Reach (nxOf zs) (fr ++ ps) x
  from_ : fromE zs (fr ++ ps) = 0
theorem clean_ok (hz : ∀ z ∈ zs, (Lit.int .u64 z).wf = true) (h : cleanE zs fr ps = 0) : CleanOk zs fr ps := by
  obtain ⟨h0, h1⟩ := cleanE_zero.1 h
  have hs : ∀ x ∈ fr ++ ps, x ∈ keepL zs fr ps := fun x hx => (reachL_mem hz h0).2 (.base hx)
  exact ⟨⟨(fromE_zero h0).1, reachL_rise, riseB_iff.1 h1, reachL_lives, fun p hp => hs p (List.mem_append_right _ hp)⟩, reach_held hz h0, hs, fun x hx => (reachL_mem hz h0).1 hx, h0⟩
/-- Cleaned again: what is there stays. -/
theorem CleanOk.tr_app (h : CleanOk zs fr ps) : (fr ++ ps).map (trI zs (keepL zs fr ps) ps) = fr.map (trI zs (keepL zs fr ps) ps) ++ ps := by
  rw [List.map_append]
  congr 1
  have : ps.map (trI zs (keepL zs fr ps) ps) = ps.map id := List.map_congr_left fun p hp => h.ok.tr_pin hp
  rw [this, List.map_id]
end
end Go.Proofs.Ytjefbekdjgmmbaa
namespace Go.Proofs.Ytjefbekdjgmmbaa
open Go.RowKit
section
variable {k : IntKind} {e : TypeId} {w : World} {base : Nat} {v : Value} {xs : List Int}
/-- 'append(v, x)' of a long list. -/
theorem Own.pushB {P : Program} {t ty : TypeId} (h : Own k e w base v xs) (ht : P.underlying t = some (.slice e)) (hinfo : (P.info? e).map (fun i => (i.zero, i.size, i.bytes)) = some (some (.int k 0), 1, 8))
    {x : Int} (hx : (Lit.int k x).wf = true) (hn : (xs.length + 1) * 8 ≤ 140737488355328) (hbase : base ≤ w.heap.size) :
    ∃ v' w', Sem.run P (Builtin.append_ #[t, t] ty #[v, .slice (some ⟨w.heap.size, 0, none⟩) 1 1]) (w.alloc (.cells #[.int k x] e)) = .ok v' w' ∧ Own k e w' base v' (xs ++ [x]) ∧ Below base w w' := by
  obtain ⟨i, hi, hz, hs, hby⟩ := info_parts hinfo
  have hcell : ∀ j u, ([.int k x] : List Value)[j]? = some u → (w.alloc (.cells #[.int k x] e)).cell? ((⟨w.heap.size, 0, none⟩ : Addr).add j) = some u := by
    intro j u hj
    match j, hj with
    | 0, hj => simp at hj; subst hj; simp [Addr.add]
  obtain ⟨v', w', hrun, hown, hg, _, _⟩ := run_append_own_at (P := P) (w.alloc (.cells #[.int k x] e)) base t ty e i (.int k 0) 1 8 ht hi hz hs hby rfl (by omega) v xs.length (xs.map (Value.int k)) (h.1.alloc _)
    ⟨w.heap.size, 0, none⟩ 1 1 [.int k x] rfl hcell (fun u hu => by rw [List.mem_singleton.1 hu]; rfl) (by unfold maxLen; omega) hn (by simp; omega)
  refine ⟨v', w', hrun, ⟨by simpa using hown, ?_⟩, ?_⟩
  · intro y hy
    rcases List.mem_append.1 hy with h1 | h1
    · exact h.2 y h1
    · rw [List.mem_singleton.1 h1]; exact hx
  · refine (((Below.refl base w).alloc hbase _).grown hg (by simp; omega) ?_)
    intro b hb
    rcases h.1.2 with ⟨rfl, _⟩ | ⟨g, cap, cur, rfl, hgb, _⟩
    · simp [Value.ownBlock] at hb
    · simp [Value.ownBlock] at hb
      omega
end
end Go.Proofs.Ytjefbekdjgmmbaa
namespace Go.Proofs.Ytjefbekdjgmmbaa
open Go.RowKit
theorem Box.setOff {w : World} {g g' : Nat} {t : TypeId} {cs : Array Value} (h : Box w g t cs) (hg : g ≠ g') (j : Nat) (d : Value) : Box (w.setCell ⟨g', j, none⟩ d) g t cs := by
  show (w.heap.modify g' _)[g]? = _
  rw [Array.getElem?_modify, if_neg (by omega)]; exact h
end Go.Proofs.Ytjefbekdjgmmbaa
