/-
  Contracts of package tint's marked and mark: the marker in memory ('MkI').
-/
import Derived.Test.YtcdlgohhjnpbmaaTintR
import Derived.Test.YtcdlgohhjnpbmaaHeldY
namespace Go.Proofs.Ytcdlgohhjnpbmaa
open Go.RowKit

/-- The marker's cells. -/
def mkC (A : Option Addr) (n c g : Nat) (L : Option Addr) (ln lc : Nat) (Am : Option Addr) (nm cm : Nat) (S : Option Addr) (sn sc room : Nat) (s : MS) (ps : Nat) : Array Value :=
  #[.slice A n c, .map (some g), .slice L ln lc, .slice Am nm cm, .slice S sn sc, .int .i64 room, .bool s.over, .int .i64 ps, .int .i64 s.deep]
/-- The marker at block 'b' is in the state 's'; all that it writes is block 'B' or a later one. -/
structure MkI (zs : List Int) (B b room : Nat) (A : Option Addr) (n c g : Nat) (L : Option Addr) (lc : Nat) (s : MS) (ps : Nat) (Am : Option Addr) (nm cm : Nat) (ms : List Int) (S : Option Addr) (sn sc : Nat) (w : World) : Prop where
  box : Box w b 92 (mkC A n c g L (livesI zs).length lc Am nm cm S sn sc room s ps)
  arr : Arr .u64 w w.heap.size Am nm ms
  offB : Off (some b) Am nm
  offS : Off (Value.slice S sn sc).ownBlock Am nm
  own : Own .i64 3 w B (.slice S sn sc) s.stk
  sb : (Value.slice S sn sc).ownBlock ≠ some b
  on : OnMarks zs ms s.on
  bb : B ≤ b
  hi : High B Am nm
/-- .. whatever its slices are. -/
def Mk (zs : List Int) (B b room : Nat) (A : Option Addr) (n c g : Nat) (L : Option Addr) (lc : Nat) (s : MS) (ps : Nat) (w : World) : Prop := ∃ Am nm cm ms S sn sc, MkI zs B b room A n c g L lc s ps Am nm cm ms S sn sc w
/-- The heap beneath it, all below block 'B'. -/
structure Hp (zs : List Int) (B : Nat) (A : Option Addr) (n c g : Nat) (L : Option Addr) (w : World) : Prop where
  arena : Arr .u64 w B A n zs
  heads : MapV Try.prog .i64 3 w g 300 (hdOf zs)
  low : g < B
  lives : Arr .i64 w B L (livesI zs).length (livesI zs)
  ok : arErr zs = 0
  cap : n ≤ c
section
variable {zs : List Int} {B b room n c g lc ps nm cm sn sc : Nat} {A L Am S : Option Addr} {s : MS} {ms : List Int} {w w' : World}
theorem Hp.below (h : Hp zs B A n c g L w) (hb : Below B w w') : Hp zs B A n c g L w' :=
  ⟨h.arena.below hb (Nat.le_refl _), h.heads.below hb h.low, h.low, h.lives.below hb (Nat.le_refl _), h.ok, h.cap⟩
theorem Hp.len (h : Hp zs B A n c g L w) : zs.length = n ∧ n ≤ 256 := by
  have := arena_len h.ok
  have := h.arena.1
  omega
theorem Hp.wf (h : Hp zs B A n c g L w) : ∀ z ∈ zs, (Lit.int .u64 z).wf = true := h.arena.2.1
theorem Hp.closed (h : Hp zs B A n c g L w) : Closed (nxOf zs) (livesI zs) := lives_closed h.wf h.ok
theorem MkI.next (h : MkI zs B b room A n c g L lc s ps Am nm cm ms S sn sc w) (hb : Below w.heap.size w w') : MkI zs B b room A n c g L lc s ps Am nm cm ms S sn sc w' :=
  ⟨h.box.below hb h.box.lt, (h.arr.below hb (Nat.le_refl _)).more hb.size, h.offB, h.offS, h.own.below hb, h.sb, h.on, h.bb, h.hi⟩
theorem Mk.next (h : Mk zs B b room A n c g L lc s ps w) (hb : Below w.heap.size w w') : Mk zs B b room A n c g L lc s ps w' := by
  obtain ⟨Am, nm, cm, ms, S, sn, sc, h⟩ := h
  exact ⟨Am, nm, cm, ms, S, sn, sc, h.next hb⟩
theorem MkI.size (h : MkI zs B b room A n c g L lc s ps Am nm cm ms S sn sc w) : sn = s.stk.length := by
  obtain ⟨_, _, e, _, _⟩ := h.own.arr
  injection e
end

theorem quiet_sameT {P : Program} {f : FuncId} {args : Array Value} {w : World} {n : Nat} {v : Value} (h : Calls P f args (w.drewN n) fun e w' => e = .returned v ∧ w.drewN n = w') :
    Calls P f args (w.drewN n) fun e w'' => e = .returned v ∧ ∃ m, w'' = w.drewN m := h.mono fun _ _ ⟨he, hm⟩ => ⟨he, n, hm.symm⟩

set_option maxHeartbeats 1000000 in
theorem marked_any {zs : List Int} {B b room n c g lc ps : Nat} {A L : Option Addr} {s : MS} (w : World) (hH : Hp zs B A n c g L w) (hM : Mk zs B b room A n c g L lc s ps w) (hon : ∀ x ∈ s.on, x ∈ livesI zs) {x : Int} (hx : x ∈ livesI zs) :
    Calls Try.prog 61 #[.pointer (some ⟨b, 0, none⟩), .int .i64 x] w fun e w' => e = .returned (.bool (decide (x ∈ s.on))) ∧ ∃ q, w.drewN q = w' := by
  obtain ⟨Am, nm, cm, ms, S, sn, sc, h⟩ := hM
  obtain ⟨hl, h256⟩ := hH.len
  have hlt := lives_lt hx
  have hE : spotE ms (n : Int) x 1 = 0 := spotE_ok (by rw [← hl]; exact h.on.form) (validB_true (by omega))
  have HC : Hid (∀ m, Calls Try.prog 14 #[.slice Am nm cm, .int .i64 n, .int .i64 x] (w.drewN m) fun e w' => e = .returned (.tuple #[.bool (decide (x ∈ s.on)), .int .i64 0]) ∧ w.drewN m = w') := fun m => by
    rw [← h.on.has hon hx]
    exact hasOk_any Am nm cm _ (n : Int) x ms _ (h.arr.drewN m) hE
  have d0 : w.cell? ⟨b, 0, none⟩ = some (.slice A n c) := h.box.cell 0
  have d3 : w.cell? ⟨b, 3, none⟩ = some (.slice Am nm cm) := h.box.cell 3
  clear h hH hlt hE hon hx
  generalize decide (x ∈ s.on) = V at *
  go_enter Try.func61, Try.ntmps61
  go_wp2_with fail
  go_quiet ((go_at_call 14; exact quiet_sameT (HC.out _)))
  go_wp2
  go_ret
  exact ⟨rfl, _, rfl⟩

theorem getD_hd {zs : List Int} {x : Int} (z : Value) (h : x ∈ livesI zs) : (hdOf zs x).getD z = .agg #[.int .i64 (vR (nth zs x.toNat)), .int .i64 (vB (nth zs x.toNat)), .int .i64 (vT (nth zs x.toNat)), .bool (vF (nth zs x.toNat))] := by
  rw [hdOf_in h]; rfl
theorem live_facts {zs : List Int} (hz : ∀ z ∈ zs, (Lit.int .u64 z).wf = true) {x : Int} (h : x ∈ livesI zs) : ∃ s : Nat, x = s ∧ s < zs.length ∧ 0 ≤ vR (nth zs s) ∧ 0 ≤ vB (nth zs s) ∧ vR (nth zs s) + vB (nth zs s) ≤ 255 ∧ hFault (vR (nth zs s)) (vB (nth zs s)) (vT (nth zs s)) (vF (nth zs s)) = 0 ∧ (longN zs s : Int) = 1 + vR (nth zs s) + vB (nth zs s) ∧ s + longN zs s ≤ zs.length ∧ s ∈ begins zs 0 ∧ vF (nth zs s) = false := by
  obtain ⟨s, hs, hf, rfl⟩ := lives_mem.1 h
  obtain ⟨_, h1, h2⟩ := begins_mem hs
  obtain ⟨h3, h4⟩ := stepOk_iff.1 h2
  have h5 := hz (nth zs s) (nth_mem h1)
  rw [wf_u64] at h5
  obtain ⟨f1, f2, f3, f4, f5, f6, f7⟩ := head_fields h5.1 h3
  exact ⟨s, rfl, h1, f1, f2, f5, f7, sLong_int h5.1 h3, h4, hs, hf⟩

theorem Own.setOff {k : IntKind} {e : TypeId} {w : World} {base g : Nat} {v : Value} {xs : List Int} (h : Own k e w base v xs) (hv : v.ownBlock ≠ some g) (j : Nat) (d : Value) : Own k e (w.setCell ⟨g, j, none⟩ d) base v xs := by
  obtain ⟨⟨hl, h2⟩, hw⟩ := h
  refine ⟨⟨hl, h2.imp id ?_⟩, hw⟩
  rintro ⟨g', cap, cur, rfl, hg, hh, r⟩
  refine ⟨g', cap, cur, rfl, hg, ?_, r⟩
  rw [heap_setOther w (fun e => hv (by simp [Value.ownBlock, e]))]; exact hh
theorem Arr.setOff {k : IntKind} {w : World} {B n g : Nat} {A : Option Addr} {zs : List Int} (h : Arr k w B A n zs) (ho : Off (some g) A n) (j : Nat) (d : Value) : Arr k (w.setCell ⟨g, j, none⟩ d) B A n zs :=
  ⟨h.1, h.2.1, fun hn => by
    obtain ⟨b, off, e, hb, hc⟩ := h.2.2 hn
    exact ⟨b, off, e, hb, fun i hi => (cell_setOther w (fun e' => ho b off hn e (by rw [e'])) j d _).trans (hc i hi)⟩⟩
theorem size_setCell (w : World) (p : Addr) (d : Value) : (w.setCell p d).heap.size = w.heap.size := by simp [World.setCell]
section
variable {zs : List Int} {B b room n c g lc ps nm cm sn sc : Nat} {A L Am S : Option Addr} {s : MS} {ms : List Int} {w w4 : World}
/-- New marks. -/
theorem MkI.marks (h : MkI zs B b room A n c g L lc s ps Am nm cm ms S sn sc w) {A3 : Option Addr} {n3 c3 lo : Nat} {ms3 : List Int} (ha : Arr .u64 w w.heap.size A3 n3 ms3) (hi : High lo A3 n3) (hb : b < lo) (hs : ∀ r, (Value.slice S sn sc).ownBlock = some r → r < lo) {on' : List Int} (ho : OnMarks zs ms3 on') :
    MkI zs B b room A n c g L lc { s with on := on' } ps A3 n3 c3 ms3 S sn sc (w.setCell ⟨b, 3, none⟩ (.slice A3 n3 c3)) := by
  have o1 : Off (some b) A3 n3 := Off.of_high hi fun b' e => by injection e with e; omega
  refine ⟨?_, ?_, o1, Off.of_high hi hs, h.own.setOff h.sb _ _, h.sb, ho, h.bb, hi.less (Nat.le_trans h.bb (Nat.le_of_lt hb))⟩
  · have := h.box.set 3 (.slice A3 n3 c3)
    exact this
  · rw [size_setCell]; exact ha.setOff o1 _ _
/-- Another cell of its own. -/
theorem MkI.cell (h : MkI zs B b room A n c g L lc s ps Am nm cm ms S sn sc w) {j : Nat} {d : Value} {s' : MS} {ps' : Nat} (hb : (mkC A n c g L (livesI zs).length lc Am nm cm S sn sc room s ps).setIfInBounds j d = mkC A n c g L (livesI zs).length lc Am nm cm S sn sc room s' ps') (hon : s'.on = s.on) (hstk : s'.stk = s.stk) :
    MkI zs B b room A n c g L lc s' ps' Am nm cm ms S sn sc (w.setCell ⟨b, j, none⟩ d) := by
  refine ⟨?_, ?_, h.offB, h.offS, by rw [hstk]; exact h.own.setOff h.sb _ _, h.sb, by rw [hon]; exact h.on, h.bb, h.hi⟩
  · rw [← hb]; exact h.box.set j d
  · rw [size_setCell]; exact h.arr.setOff h.offB _ _
/-- Another stack. -/
theorem MkI.stack (h : MkI zs B b room A n c g L lc s ps Am nm cm ms S sn sc w) {S' : Option Addr} {sn' sc' : Nat} {l : List Int} (hg : Grew w (.slice S sn sc) w4 (.slice S' sn' sc')) (ho : Own .i64 3 w4 B (.slice S' sn' sc') l) :
    MkI zs B b room A n c g L lc { s with stk := l } ps Am nm cm ms S' sn' sc' (w4.setCell ⟨b, 4, none⟩ (.slice S' sn' sc')) := by
  obtain ⟨h1, h2⟩ := h.box.grew hg h.sb
  obtain ⟨h3, h4⟩ := h.arr.grew hg h.offS (Nat.le_refl _)
  refine ⟨?_, ?_, h.offB, h4, ho.setOff h2 _ _, h2, h.on, h.bb, h.hi⟩
  · have := h1.set 4 (.slice S' sn' sc')
    exact this
  · rw [size_setCell]; exact (h3.more hg.size).setOff h.offB _ _
end
/-- The stack is not too high. -/
theorem mk1_room {room : Nat} {s : MS} (h : s.stk.length ≤ room) (x : Int) : (mk1 room s x).stk.length ≤ room := by
  rcases mk1_cases room s x with ⟨_, e⟩ | ⟨_, _, _, e⟩ | ⟨_, _, hr, e⟩ <;> rw [e]
  · exact h
  · exact h
  · show (s.stk ++ [x]).length ≤ room
    rw [List.length_append, List.length_singleton]; omega

set_option maxRecDepth 8000 in
set_option maxHeartbeats 4000000 in
theorem mark_any {zs : List Int} {B b room n c g lc ps : Nat} {A L : Option Addr} {s : MS} (w : World) (hH : Hp zs B A n c g L w) (hM : Mk zs B b room A n c g L lc s ps w) (hk : MOk (livesI zs) s) (hkr : s.stk.length ≤ room) (hr : room ≤ 256) (hdp : s.deep ≤ room) {x : Int} (hx : x ∈ livesI zs) :
    Calls Try.prog 87 #[.pointer (some ⟨b, 0, none⟩), .int .i64 x] w fun e w' => e = .returned (.tuple #[]) ∧ Mk zs B b room A n c g L lc (mk1 room s x) ps w' ∧ Below B w w' := by
  have HM1 := Lib.hid (marked_any w hH hM hk.sub hx)
  by_cases hin : x ∈ s.on
  · rw [show decide (x ∈ s.on) = true by simpa using hin] at HM1
    have HE : Hid (mk1 room s x = s) := by
      show _ = _
      unfold mk1; rw [if_pos (.inr hin)]
    have HM := Lib.hid hM
    clear hH hM hk hin hx hr hkr hdp
    go_enter Try.func87, Try.ntmps87
    go_wp2_with fail
    refine HM1.out.mono ?_
    rintro e w1 ⟨rfl, q, rfl⟩
    go_wp2
    refine bodyPost_ret (v := .tuple #[]) (by simp [results, Try.results87, go_sem]) rfl ⟨rfl, by rw [HE.out]; exact HM.out.next (below_drewN (Below.refl _ _) q), below_drewN (Below.refl _ _) q⟩
  · rw [show decide (x ∈ s.on) = false by simpa using hin] at HM1
    obtain ⟨Am, nm, cm, ms, S, sn, sc, h⟩ := hM
    obtain ⟨hl, h256⟩ := hH.len
    obtain ⟨t, rfl, ht1, ht2, ht3, ht4, ht5, ht6, ht7, ht8, ht9⟩ := live_facts hH.wf hx
    have hsn := h.size
    have hlkq := fun q => (hH.heads.drewN q).look headT (x := (t : Int)) (wf_i64.2 (by omega))
    rw [getD_hd _ hx, Int.toNat_natCast] at hlkq
    have HL := Lib.hid (fun w => lengthOk (vR (nth zs t)) (vB (nth zs t)) (vT (nth zs t)) (vF (nth zs t)) w ht5)
    have HSE : Hid (spotE ms (n : Int) (t : Int) (longN zs t : Nat) = 0) := spotE_ok (by rw [← hl]; exact h.on.form) (validB_true (by omega))
    have HON := Lib.hid (h.on.step hx)
    rw [Int.toNat_natCast] at HON
    obtain ⟨N, hN⟩ : ∃ N, longN zs t = N := ⟨_, rfl⟩
    rw [hN] at ht6 ht7 HSE HON
    generalize vR (nth zs t) = R at *
    generalize vB (nth zs t) = Bd at *
    generalize vT (nth zs t) = T at *
    generalize vF (nth zs t) = F at *
    have hN2 : 1 + R + Bd = (N : Int) := ht6.symm
    rw [hN2] at HL
    have d1 : w.cell? ⟨b, 1, none⟩ = some (.map (some g)) := h.box.cell 1
    have HH := Lib.hid hH
    have HK := Lib.hid h
    have HIN := Lib.hid hin
    have HSN := Lib.hid hsn
    have hsr : sn ≤ room := by omega
    have HK0 : Hid (B ≤ w.heap.size) := Nat.le_trans h.bb (Nat.le_of_lt h.box.lt)
    clear hH h hin hN hsn hkr ht2 ht3 ht4 ht5 ht6 ht8 ht9 hN2
    go_enter Try.func87, Try.ntmps87
    go_wp2_with fail
    refine HM1.out.mono ?_
    rintro e w1 ⟨rfl, q, rfl⟩
    have d1' : (w.drewN q).cell? ⟨b, 1, none⟩ = some (.map (some g)) := d1
    have hlk' : Sem.run Try.prog (Instr.lookup 84 (.map (some g)) (.int .i64 (t : Int)) false) (w.drewN q) = .ok (.agg #[.int .i64 R, .int .i64 Bd, .int .i64 T, .bool F]) (w.drewN q) := hlkq q
    have HK1 := Lib.hid (HK.out.next (below_drewN (Below.refl _ _) q))
    have HBq : Hid (Below w.heap.size w (w.drewN q)) := below_drewN (Below.refl _ _) q
    clear d1 hlkq HM1 HK
    generalize w.drewN q = W at *
    go_wp2_with fail
    refine (HL.out _).mono ?_
    rintro e w1 ⟨rfl, b1⟩
    have HK2 := Lib.hid (HK1.out.next b1)
    have HB2 := Lib.hid (HBq.out.trans (b1.mono HBq.out.size))
    clear b1 HK1 HBq d1' hlk' HL
    go_wp2_with fail
    refine wp_region_Y 19 (fun w' => w'.cell? ⟨b, 3, none⟩ = some (.slice Am nm cm) ∧ w'.cell? ⟨b, 0, none⟩ = some (.slice A n c)) (by kernel_rfl) ?_
    have hS0 : w1.drew.cell? ⟨b, 3, none⟩ = some (.slice Am nm cm) ∧ w1.drew.cell? ⟨b, 0, none⟩ = some (.slice A n c) := ⟨HK2.out.box.cell 3, HK2.out.box.cell 0⟩
    change anyY _ _ _ _ _ _ _ _ _ w1.drew
    refine anyY_pure (i := 0) (v := .pointer (some ⟨b, 0, none⟩)) rfl rfl rfl (by kernel_rfl) (by kernel_rfl) (by kernel_rfl) (fun _ _ _ h => h) (Or.inl ⟨by rfl, fun wx _ => ?_⟩) (.inr hS0) ?_
    · go_simp
    refine anyY_pure (i := 1) (v := .pointer (some ⟨b, 0, none⟩)) rfl rfl rfl (by kernel_rfl) (by kernel_rfl) (by kernel_rfl) (fun _ _ _ h => h) (Or.inl ⟨by rfl, fun wx _ => ?_⟩) (.inr hS0) ?_
    · go_simp
    refine anyY_pure (i := 2) (v := .pointer (some ⟨b, 0, none⟩)) rfl rfl rfl (by kernel_rfl) (by kernel_rfl) (by kernel_rfl) (fun _ _ _ h => h) (Or.inl ⟨by rfl, fun wx _ => ?_⟩) (.inr hS0) ?_
    · go_simp
    refine anyY_pure (i := 3) (v := .pointer (some ⟨b, 3, none⟩)) rfl rfl rfl (by kernel_rfl) (by kernel_rfl) (by kernel_rfl) (fun _ _ _ h => h) (Or.inl ⟨by rfl, fun wx _ => ?_⟩) (.inr hS0) ?_
    · go_simp
    refine anyY_take (i := 4) (v := .slice Am nm cm) rfl rfl (by kernel_rfl) rfl (by kernel_rfl) (by kernel_rfl) (by kernel_rfl) (by kernel_rfl) (fun _ _ _ h => h) (Or.inl ⟨by rfl, fun wx hS => ?_⟩) hS0 ?_
    · obtain ⟨q1, q2⟩ := hS
      go_simp
    refine anyY_pure (i := 5) (v := .pointer (some ⟨b, 0, none⟩)) rfl rfl rfl (by kernel_rfl) (by kernel_rfl) (by kernel_rfl) (fun _ _ _ h => h) (Or.inl ⟨by rfl, fun wx _ => ?_⟩) (.inr hS0) ?_
    · go_simp
    refine anyY_pure (i := 6) (v := .pointer (some ⟨b, 0, none⟩)) rfl rfl rfl (by kernel_rfl) (by kernel_rfl) (by kernel_rfl) (fun _ _ _ h => h) (Or.inl ⟨by rfl, fun wx _ => ?_⟩) (.inr hS0) ?_
    · go_simp
    refine anyY_pure (i := 7) (v := .pointer (some ⟨b, 0, none⟩)) rfl rfl rfl (by kernel_rfl) (by kernel_rfl) (by kernel_rfl) (fun _ _ _ h => h) (Or.inl ⟨by rfl, fun wx _ => ?_⟩) (.inr hS0) ?_
    · go_simp
    refine anyY_pure (i := 8) (v := .pointer (some ⟨b, 0, none⟩)) rfl rfl rfl (by kernel_rfl) (by kernel_rfl) (by kernel_rfl) (fun _ _ _ h => h) (Or.inl ⟨by rfl, fun wx _ => ?_⟩) (.inr hS0) ?_
    · go_simp
    refine anyY_take (i := 9) (v := .slice A n c) rfl rfl (by kernel_rfl) rfl (by kernel_rfl) (by kernel_rfl) (by kernel_rfl) (by kernel_rfl) (fun _ _ _ h => h) (Or.inl ⟨by rfl, fun wx hS => ?_⟩) hS0 ?_
    · obtain ⟨q1, q2⟩ := hS
      go_simp
    refine anyY_pure (i := 10) (v := .int .i64 n) rfl rfl rfl (by kernel_rfl) (by kernel_rfl) (by kernel_rfl) (fun _ _ _ h => h) (Or.inl ⟨by rfl, fun wx _ => ?_⟩) (.inr hS0) ?_
    · go_simp
    refine anyY_pure (i := 11) (v := .int .i64 (t : Int)) rfl rfl rfl (by kernel_rfl) (by kernel_rfl) (by kernel_rfl) (fun _ _ _ h => h) (Or.inl ⟨by rfl, fun wx _ => ?_⟩) (.inr hS0) ?_
    · go_simp
    refine anyY_pure (i := 12) (v := .int .i64 (N : Int)) rfl rfl rfl (by kernel_rfl) (by kernel_rfl) (by kernel_rfl) (fun _ _ _ h => h) (Or.inl ⟨by rfl, fun wx _ => ?_⟩) (.inr hS0) ?_
    · go_simp
    refine anyY_only (i := 13) (by kernel_rfl) ?_
    have HST := Lib.hid (set_okQ Am nm cm t N (n : Int) true ms w1.drew HSE.out (HK2.out.arr.drewN 1))
    have HKd := Lib.hid (HK2.out.next (w' := w1.drew) (below_drewN (Below.refl _ _) 1))
    have HBd : Hid (Below w.heap.size w w1.drew) := below_drewN HB2.out 1
    clear HK2 HB2
    generalize w1.drew = W1 at *
    refine wpOp_step rfl fun K' hK' => ?_
    go_simp
    refine HST.out.mono ?_
    rintro e w2 ⟨A3, c3, rfl, b2, ha3, hi3⟩
    rw [Int.toNat_natCast, Int.toNat_natCast] at ha3
    have HK3 := Lib.hid (HKd.out.next b2)
    have hS2 : w2.cell? ⟨b, 3, none⟩ = some (.slice Am nm cm) ∧ w2.cell? ⟨b, 0, none⟩ = some (.slice A n c) := ⟨HK3.out.box.cell 3, HK3.out.box.cell 0⟩
    refine hK' _ _ ⟨.inr (.inr hS2), ?_⟩
    clear hK'
    refine anyY_pure (i := 14) (v := .tuple #[.slice A3 nm c3, .int .i64 0]) rfl rfl rfl (by kernel_rfl) (by kernel_rfl) (by kernel_rfl) (fun _ _ _ h => h) (Or.inl ⟨by rfl, fun wx _ => ?_⟩) (.inr hS2) ?_
    · go_simp
    refine anyY_pure (i := 15) (v := .slice A3 nm c3) rfl rfl rfl (by kernel_rfl) (by kernel_rfl) (by kernel_rfl) (fun _ _ _ h => h) (Or.inl ⟨by rfl, fun wx _ => ?_⟩) (.inr hS2) ?_
    · go_simp
    refine anyY_pure (i := 16) (v := .int .i64 0) rfl rfl rfl (by kernel_rfl) (by kernel_rfl) (by kernel_rfl) (fun _ _ _ h => h) (Or.inl ⟨by rfl, fun wx _ => ?_⟩) (.inr hS2) ?_
    · go_simp
    refine anyY_pure (i := 17) (v := .pointer (some ⟨b, 0, none⟩)) rfl rfl rfl (by kernel_rfl) (by kernel_rfl) (by kernel_rfl) (fun _ _ _ h => h) (Or.inl ⟨by rfl, fun wx _ => ?_⟩) (.inr hS2) ?_
    · go_simp
    refine anyY_pure (i := 18) (v := .pointer (some ⟨b, 3, none⟩)) rfl rfl rfl (by kernel_rfl) (by kernel_rfl) (by kernel_rfl) (fun _ _ _ h => h) (Or.inl ⟨by rfl, fun wx _ => ?_⟩) (.inr hS2) ?_
    · go_simp
    refine anyY_only (i := 19) (by kernel_rfl) ?_
    have e3 := HK3.out.box.soft 3
    have HK4 := Lib.hid (HK3.out.marks (c3 := c3) ha3 hi3 HKd.out.box.lt HKd.out.own.rowLt HON.out)
    have HB4 : Hid (Below B w (w2.setCell ⟨b, 3, none⟩ (.slice A3 nm c3))) := below_set ((HBd.out.mono (by have := HKd.out.bb; have := HK0.out; omega)).trans (b2.mono (by have := HKd.out.bb; have := HKd.out.box.lt; omega))) HKd.out.bb _ _
    obtain ⟨hS3, _⟩ := hS2
    refine wpOp_step rfl fun K' hK' => ?_
    go_simp
    refine hK' _ _ ⟨.inr (.inl rfl), anyY_done (by kernel_rfl) ?_ _⟩
    clear hK' hS3 e3 hS0 HK3 HKd HBd b2 ha3 hi3 HON HSE HST
    generalize (w2.setCell ⟨b, 3, none⟩ (.slice A3 nm c3)) = W4 at *
    have d4 : W4.cell? ⟨b, 4, none⟩ = some (.slice S sn sc) := HK4.out.box.cell 4
    have d5 : W4.cell? ⟨b, 5, none⟩ = some (.int .i64 room) := HK4.out.box.cell 5
    go_wp2_with fail
    by_cases hfull : room ≤ sn
    · obtain rfl : sn = room := by omega
      have c1 : ((sn : Int) == (sn : Int)) = true := by simp
      have HE : Hid (mk1 sn s (t : Int) = { s with on := s.on ++ [(t : Int)], over := true }) := by
        show _ = _
        have := HSN.out
        unfold mk1
        rw [if_neg (by rintro (h | h); omega; exact HIN.out h), if_pos (by omega)]
      go_quiet (fail)
      have HK5 := Lib.hid (HK4.out.next (w' := W4.drewN nq) (below_drewN (Below.refl _ _) nq))
      have HB5 : Hid (Below B w (W4.drewN nq)) := below_drewN HB4.out nq
      clear HK4 HB4 d4 d5 c1
      generalize W4.drewN nq = W5 at *
      have d6 : W5.cell? ⟨b, 6, none⟩ = some (.bool s.over) := HK5.out.box.cell 6
      have s6 := HK5.out.box.soft 6
      have HK6 := Lib.hid (HK5.out.cell (j := 6) (d := .bool true) (s' := { s with on := s.on ++ [(t : Int)], over := true }) (ps' := ps) rfl rfl rfl)
      have HB6 : Hid (Below B w (W5.setCell ⟨b, 6, none⟩ (.bool true))) := below_set HB5.out HK5.out.bb _ _
      clear HK5 HB5
      go_wp2
      refine bodyPost_ret (v := .tuple #[]) (by simp [results, Try.results87, go_sem]) rfl ⟨rfl, ⟨_, _, _, _, _, _, _, by rw [HE.out]; exact HK6.out⟩, HB6.out⟩
    · have c1 : ((sn : Int) == (room : Int)) = false := by simp; omega
      have HE : Hid (mk1 room s (t : Int) = { on := s.on ++ [(t : Int)], stk := s.stk ++ [(t : Int)], over := s.over, deep := max s.deep (s.stk.length + 1) }) := by
        show _ = _
        have := HSN.out
        unfold mk1
        rw [if_neg (by rintro (h | h); omega; exact HIN.out h), if_neg (by omega)]
      go_quiet (fail)
      have HK5 := Lib.hid (HK4.out.next (w' := W4.drewN nq) (below_drewN (Below.refl _ _) nq))
      have HB5 : Hid (Below B w (W4.drewN nq)) := below_drewN HB4.out nq
      clear HK4 HB4 d4 d5 c1
      generalize W4.drewN nq = W5 at *
      have hown : Own .i64 3 W5 B (.slice S sn sc) s.stk := HK5.out.own
      obtain ⟨v', w6, hrun, hO, hG⟩ := hown.pushG (P := Try.prog) (t := 54) (ty := 54) Try.underlying54 intI_info (by omega) (x := (t : Int)) (wf_i64.2 (by omega)) (by have := HSN.out; omega) (Nat.le_trans HK5.out.bb (Nat.le_of_lt HK5.out.box.lt))
      obtain ⟨S', sc', rfl, _, _⟩ := hO.arr
      have HK6 := Lib.hid (HK5.out.stack hG hO)
      have HB6 : Hid (Below B w (w6.setCell ⟨b, 4, none⟩ (.slice S' (s.stk ++ [(t : Int)]).length sc'))) := below_set (HB5.out.trans (hG.below (Nat.le_trans HK5.out.bb (Nat.le_of_lt HK5.out.box.lt)) HK5.out.own.row)) HK5.out.bb _ _
      have d4 : W5.cell? ⟨b, 4, none⟩ = some (.slice S sn sc) := HK5.out.box.cell 4
      obtain ⟨hbx, _⟩ := HK5.out.box.grew hG HK5.out.sb
      have e4 : w6.cell? ⟨b, 4, none⟩ = some (.slice S sn sc) := hbx.cell 4
      have f4 := hbx.soft 4
      have hM : (s.stk ++ [(t : Int)]).length = sn + 1 := by have := HSN.out; rw [List.length_append, List.length_singleton]; omega
      have HRN := Lib.hid hrun
      clear hrun hO hG hbx HB5 HK5 hown
      obtain ⟨M, hMM⟩ : ∃ M, (s.stk ++ [(t : Int)]).length = M := ⟨_, rfl⟩
      rw [hMM] at HRN HK6 HB6 hM
      have HMM := Lib.hid hMM
      have HM1' := Lib.hid hM
      clear hMM hM
      go_wp2_with (at_builtin; refine wpList_append_run rfl (.tmp 56) (.tmp 58) 54 rfl rfl rfl HRN.out ?_)
      clear d4 e4 f4 HRN
      generalize (w6.setCell ⟨b, 4, none⟩ (.slice S' M sc')) = W7 at *
      have d4 : W7.cell? ⟨b, 4, none⟩ = some (.slice S' M sc') := HK6.out.box.cell 4
      have d8 : W7.cell? ⟨b, 8, none⟩ = some (.int .i64 s.deep) := HK6.out.box.cell 8
      refine wp_region_still_tail 11 (by kernel_rfl) (by kernel_rfl) ?_
      simp only [List.take_succ_cons, List.take_zero, List.drop_succ_cons, List.drop_zero]
      repeat still_step
      refine wpStill_nil ?_
      change wpList _ _ _ _ _ (W7.drewN 1)
      have HK8 := Lib.hid (HK6.out.next (w' := W7.drewN 1) (below_drewN (Below.refl _ _) 1))
      have HB8 : Hid (Below B w (W7.drewN 1)) := below_drewN HB6.out 1
      clear d4 d8 HK6 HB6
      generalize W7.drewN 1 = W8 at *
      have e8 : W8.cell? ⟨b, 8, none⟩ = some (.int .i64 s.deep) := HK8.out.box.cell 8
      have f8 := HK8.out.box.soft 8
      have HEND : Hid (∀ D : Nat, max s.deep (s.stk.length + 1) = D → MkI zs B b room A n c g L lc { on := s.on ++ [(t : Int)], stk := s.stk ++ [(t : Int)], over := s.over, deep := max s.deep (s.stk.length + 1) } ps A3 nm c3 (setL ms t N true) S' M sc' (W8.setCell ⟨b, 8, none⟩ (.int .i64 D)) ∧ Below B w (W8.setCell ⟨b, 8, none⟩ (.int .i64 D))) := fun D hD =>
        ⟨HK8.out.cell (j := 8) (d := .int .i64 D) (s' := { on := s.on ++ [(t : Int)], stk := s.stk ++ [(t : Int)], over := s.over, deep := max s.deep (s.stk.length + 1) }) (ps' := ps) (by rw [hD]; rfl) rfl rfl, below_set HB8.out HK8.out.bb _ _⟩
      clear HK8 HB8
      go_wp2
      · refine bodyPost_end (v := .tuple #[]) (by simp [results, Try.results87, go_sem]) rfl ⟨rfl, ⟨_, _, _, _, _, _, _, by rw [HE.out]; exact (HEND.out M (by have := HM1'.out; have := HSN.out; omega)).1⟩, (HEND.out M (by have := HM1'.out; have := HSN.out; omega)).2⟩
      · refine bodyPost_end (v := .tuple #[]) (by simp [results, Try.results87, go_sem]) rfl ⟨rfl, ⟨_, _, _, _, _, _, _, by rw [HE.out]; exact (HEND.out s.deep (by have := HM1'.out; have := HSN.out; omega)).1⟩, (HEND.out s.deep (by have := HM1'.out; have := HSN.out; omega)).2⟩
end Go.Proofs.Ytcdlgohhjnpbmaa
