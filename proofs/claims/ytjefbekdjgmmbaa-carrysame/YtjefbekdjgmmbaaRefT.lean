/-
  Contracts of the reference's FromFault and Reached.
-/
import Derived.Test.YtjefbekdjgmmbaaTintCW
import Derived.Test.YtjefbekdjgmmbaaRefFault
namespace Go.Proofs.Ytjefbekdjgmmbaa
open Go.RowKit

theorem rise_ext : ∀ {xs ys : List Int}, xs.Pairwise (· < ·) → ys.Pairwise (· < ·) → (∀ a, a ∈ xs ↔ a ∈ ys) → xs = ys
  | [], [], _, _, _ => rfl
  | [], y :: ys, _, _, h => by have := (h y).2 List.mem_cons_self; cases this
  | x :: xs, [], _, _, h => by have := (h x).1 List.mem_cons_self; cases this
  | x :: xs, y :: ys, hx, hy, h => by
    obtain ⟨hx1, hx2⟩ := List.pairwise_cons.1 hx
    obtain ⟨hy1, hy2⟩ := List.pairwise_cons.1 hy
    have e : x = y := by
      rcases List.mem_cons.1 ((h x).1 List.mem_cons_self) with h1 | h1
      · exact h1
      · rcases List.mem_cons.1 ((h y).2 List.mem_cons_self) with h2 | h2
        · exact h2.symm
        · have := hx1 y h2
          have := hy1 x h1
          omega
    subst e
    rw [rise_ext hx2 hy2 fun a => ⟨fun ha => ?_, fun ha => ?_⟩]
    · rcases List.mem_cons.1 ((h a).1 (List.mem_cons_of_mem _ ha)) with h1 | h1
      · have := hx1 a ha; omega
      · exact h1
    · rcases List.mem_cons.1 ((h a).2 (List.mem_cons_of_mem _ ha)) with h1 | h1
      · have := hy1 a ha; omega
      · exact h1

section
variable {k : IntKind} {e : TypeId} {w : World} {base : Nat} {v : Value} {xs : List Int}
/-- 'append(v, x)' of a long list. -/
theorem Own.pushB {P : Program} {t ty : TypeId} (h : Own k e w base v xs) (ht : P.underlying t = some (.slice e)) (hinfo : (P.info? e).map (fun i => (i.zero, i.size, i.bytes)) = some (some (.int k 0), 1, 8))
    {x : Int} (hx : (Lit.int k x).wf = true) (hn : (xs.length + 1) * 8 ≤ 140737488355328) (hbase : base ≤ w.heap.size) :
    ∃ v' w', Sem.run P (Builtin.append_ #[t, t] ty #[v, .slice (some ⟨w.heap.size, 0, none⟩) 1 1]) (w.alloc (.cells #[.int k x] e)) = .ok v' w' ∧ Own k e w' base v' (xs ++ [x]) ∧ Below base w w' := by
  obtain ⟨i, hi, hz, hs, hby⟩ := info_parts hinfo
  have hcell : ∀ j u, ([.int k x] : List Value)[j]? = some u → (w.alloc (.cells #[.int k x] e)).cell? ((⟨w.heap.size, 0, none⟩ : Addr).add j) = some u := by
    intro j u hj
    match j, hj with
    | 0, hj => simp at hj; subst hj; simp [Addr.add]
  obtain ⟨v', w', hrun, hown, hg, _, _⟩ := run_append_own_at (P := P) (w.alloc (.cells #[.int k x] e)) base t ty e i (.int k 0) 1 8 ht hi hz hs hby rfl (by omega) v xs.length (xs.map (Value.int k)) (h.1.alloc _)
    ⟨w.heap.size, 0, none⟩ 1 1 [.int k x] rfl hcell (fun u hu => by rw [List.mem_singleton.1 hu]; rfl) (by unfold maxLen; omega) hn (by simp; omega)
  refine ⟨v', w', hrun, ⟨by simpa using hown, ?_⟩, ?_⟩
  · intro y hy
    rcases List.mem_append.1 hy with h1 | h1
    · exact h.2 y h1
    · rw [List.mem_singleton.1 h1]; exact hx
  · refine (((Below.refl base w).alloc hbase _).grown hg (by simp; omega) ?_)
    intro b hb
    rcases h.1.2 with ⟨rfl, _⟩ | ⟨g, cap, cur, rfl, hgb, _⟩
    · simp [Value.ownBlock] at hb
    · simp [Value.ownBlock] at hb
      omega
/-- 'append(nil, src...)' of a long list. -/
theorem Own.madeB {P : Program} {t ty : TypeId} (ht : P.underlying t = some (.slice e)) (hinfo : (P.info? e).map (fun i => (i.zero, i.size, i.bytes)) = some (some (.int k 0), 1, 8)) {A : Option Addr} {m c B : Nat} {ys : List Int} (ha : Arr k w B A m ys) (hn : m * 8 ≤ 140737488355328) (hbase : base ≤ w.heap.size) :
    ∃ v' w', Sem.run P (Builtin.append_ #[t, t] ty #[.slice none 0 0, .slice A m c]) w = .ok v' w' ∧ Own k e w' base v' ys ∧ Below base w w' := by
  obtain ⟨i, hi, hz, hs, hby⟩ := info_parts hinfo
  rcases A with _ | ad
  · have hm : m = 0 := by
      rcases Nat.eq_zero_or_pos m with h0 | h0
      · exact h0
      · obtain ⟨_, _, h1, _⟩ := ha.2.2 h0
        cases h1
    subst hm
    have hy : ys = [] := List.eq_nil_of_length_eq_zero ha.1
    subst hy
    refine ⟨.slice none 0 0, w, ?_, Own.nil, Below.refl _ _⟩
    simp [Builtin.append_, run_underlying ht, sizeOf, typeInfo, hi, Builtin.lenOf, Builtin.firstCells]
  · have hcell : ∀ j u, (ys.map (Value.int k))[j]? = some u → w.cell? (ad.add j) = some u := by
      intro j u hj
      have hjl : j < ys.length := by
        have := (List.getElem?_eq_some_iff.1 hj).1
        simpa using this
      obtain ⟨b, off, h1, _, hc⟩ := ha.2.2 (by have := ha.1; omega)
      injection h1 with h1
      subst h1
      have e1 : (⟨b, off, none⟩ : Addr).add j = ⟨b, off + j, none⟩ := by unfold Addr.add; split <;> simp_all
      rw [e1, hc j (by have := ha.1; omega), ← hj]
      simp [nth, List.getElem?_eq_getElem hjl]
    have hnil : Own k e w base (.slice none 0 0) [] := Own.nil
    obtain ⟨v', w', hrun, hown, hg, _, _⟩ := run_append_own_at (P := P) w base t ty e i (.int k 0) 1 8 ht hi hz hs hby rfl (by omega) (.slice none 0 0) 0 [] hnil.1
      ad m c (ys.map (Value.int k)) (by simp [ha.1]) hcell (fun u hu => by obtain ⟨z, _, rfl⟩ := List.mem_map.1 hu; rfl) (by unfold maxLen; omega) (by omega) hbase
    refine ⟨v', w', hrun, ⟨?_, ha.2.1⟩, (Below.refl base w).grown hg hbase (by intro g hg; simp [Value.ownBlock] at hg)⟩
    rw [ha.1]
    simpa using hown
end

theorem namedAt_any (A : Option Addr) (n c t : Nat) (zs : List Int) (w : World) (ha : Arr .u64 w w.heap.size A n zs) (h : arErr zs = 0) (ht : (t : Int) ∈ livesI zs) :
    Calls Try.prog 45 #[.slice A n c, .int .i64 t] w fun e w' => ∃ A' c', e = .returned (.slice A' (named zs t).length c') ∧ Below w.heap.size w w' ∧ Arr .i64 w' w'.heap.size A' (named zs t).length (named zs t) ∧ High w.heap.size A' (named zs t).length := by
  obtain ⟨j, hj, e, hf⟩ := mem_lives.1 ht
  have e' : st zs j = t := by omega
  have := named_any A n c j zs w ha (arErr_zero h).1 hj hf
  rwa [e'] at this

set_option maxRecDepth 8000 in
set_option maxHeartbeats 1000000 in
theorem fromFault_any (A F : Option Addr) (n c nf cf g : Nat) (zs fr : List Int) (w : World) (hn : n ≤ maxLen) (ha : Arr .u64 w w.heap.size A n zs) (hnf : nf ≤ maxLen) (hfr : Arr .i64 w w.heap.size F nf fr) (hg : g < w.heap.size) (hc : w.cell? ⟨g, 0, none⟩ = some (.slice F nf cf)) :
    Calls Try.prog 12 #[.slice A n c, .slice (some ⟨g, 0, none⟩) 1 1] w fun e w' => e = .returned (.int .i64 (fromE zs fr)) ∧ Below w.heap.size w w' := by
  unfold maxLen at hnf
  have HAF := Lib.hid (ArenaFault_any A n c zs w hn ha)
  by_cases h : arErr zs = 0
  · rw [h] at HAF
    have HA := Lib.hid ha
    have HF := Lib.hid hfr
    have H0 := Lib.hid h
    have HG := Lib.hid hg
    have HCC := Lib.hid hc
    clear ha hfr h hn hg hc
    go_enter Try.func12, Try.ntmps12
    go_wp2_with fail
    refine HAF.out.mono ?_
    rintro e w1 ⟨rfl, b1⟩
    have HB1 := Lib.hid b1
    have HBG := Lib.hid (begins_any A n c zs w1 (HA.out.later b1) (arErr_zero H0.out).1)
    clear b1 HAF
    go_wp2_with fail
    refine HBG.out.mono ?_
    rintro e w2 ⟨A2, c2, rfl, b2, hA2⟩
    have HB2 := Lib.hid (bthen HB1.out b2)
    have HA2 := Lib.hid hA2
    have HF2 := Lib.hid (HF.out.later (bthen HB1.out b2))
    have HC2 : Hid (w2.cell? ⟨g, 0, none⟩ = some (.slice F nf cf)) := (HB2.out.cell (p := ⟨g, 0, none⟩) HG.out).trans HCC.out
    clear b2 hA2 HBG HB1
    obtain ⟨ln, hln⟩ : ∃ q, (livesI zs).length = q := ⟨_, rfl⟩
    rw [hln] at HA2 ⊢
    have hln2 : ln ≤ 256 := by rw [← hln]; exact lives_len (arena_len H0.out)
    clear hln
    go_wp2_with fail
    go_loopw [20] (fun i wr => w2 = wr ∧ (i = .int .i64 0 ∨ (i = .int .i64 1 ∧ Hid (∀ j, j < nf → nth fr j ∈ livesI zs)))) (fun i _ => 1 - (intOf i).toNat)
    case atStart => exact ⟨rfl, .inl rfl⟩
    case round =>
      obtain ⟨rfl, rfl | ⟨rfl, HP⟩⟩ := hrel
      · have d0 := HC2.out
        go_wp2_with fail
        go_loopw [26] (fun i wr => w2 = wr ∧ ∃ j : Nat, j ≤ nf ∧ i = .int .i64 j ∧ Hid (∀ i, i < j → nth fr i ∈ livesI zs)) (fun i _ => nf - (intOf i).toNat)
        case atStart => exact ⟨rfl, 0, Nat.zero_le _, rfl, (fun i hi => absurd hi (by omega))⟩
        case round =>
          obtain ⟨rfl, j, hj, rfl, HP⟩ := hrel
          clear d0
          by_cases hlt : j < nf
          · obtain ⟨b, off, rfl, _, hcs⟩ := HF2.out.2.2 (by omega)
            have hcj := hcs j hlt
            have HI := Lib.hid (in_ref A2 ln c2 _ (nth fr j) (livesI zs) w2 (by unfold maxLen; omega) HA2.out)
            clear hcs
            by_cases hin : nth fr j ∈ livesI zs
            · rw [show decide (nth fr j ∈ livesI zs) = true by simpa using hin] at HI
              have HPN : Hid (∀ i, i < j + 1 → nth fr i ∈ livesI zs) := fun i hi => by
                rcases Nat.lt_succ_iff_lt_or_eq.1 hi with h1 | h1
                · exact HP.out i h1
                · rw [h1]; exact hin
              clear hin HP
              generalize nth fr j = X at *
              go_wp2_with fail
              refine HI.out.mono ?_
              rintro e w3 ⟨rfl, rfl⟩
              go_wp2
              go_roundw
              case rel => exact ⟨by trivial, j + 1, by omega, by go_num, HPN⟩
              case measure => simp [intOf]; omega
            · rw [show decide (nth fr j ∈ livesI zs) = false by simpa using hin] at HI
              have HE : Hid (fromE zs fr = 5) := fromE_none H0.out (nth_mem (by have := HF2.out.1; omega)) hin
              clear hin HP
              generalize nth fr j = X at *
              go_wp2_with fail
              refine HI.out.mono ?_
              rintro e w3 ⟨rfl, rfl⟩
              go_wp2
              go_ret
              exact ⟨by rw [HE.out]; rfl, HB2.out⟩
          · obtain rfl : j = nf := by omega
            go_wp2
            go_roundw
            case rel => exact ⟨by trivial, .inr ⟨by go_num, HP⟩⟩
            case measure => simp [intOf]
      · have HE : Hid (fromE zs fr = 0) := fromE_ok H0.out fun x hx => by
          obtain ⟨i, hi, e⟩ := List.getElem_of_mem hx
          have := HP.out i (by have := HF2.out.1; omega)
          rw [nth_get _ _ hi, e] at this
          exact this
        clear HP
        go_wp2
        go_ret
        exact ⟨by rw [HE.out]; rfl, HB2.out⟩
  · have HE := Lib.hid (fromE_arena (fr := fr) h)
    have hb : (arErr zs != 0) = true := by simpa using h
    clear ha hfr h hc
    generalize arErr zs = E at *
    go_enter Try.func12, Try.ntmps12
    go_wp2_with fail
    refine HAF.out.mono ?_
    rintro e w1 ⟨rfl, b1⟩
    have HB1 := Lib.hid b1
    clear b1 HAF
    go_wp2
    go_ret
    exact ⟨by rw [HE.out]; rfl, HB1.out⟩

/-- 'append(v, x)' of a long list, and what it leaves. -/
theorem Own.pushGB {k : IntKind} {e : TypeId} {w : World} {base : Nat} {v : Value} {xs : List Int} {P : Program} {t ty : TypeId} (h : Own k e w base v xs) (ht : P.underlying t = some (.slice e)) (hinfo : (P.info? e).map (fun i => (i.zero, i.size, i.bytes)) = some (some (.int k 0), 1, 8))
    {x : Int} (hx : (Lit.int k x).wf = true) (hn : (xs.length + 1) * 8 ≤ 140737488355328) (hbase : base ≤ w.heap.size) :
    ∃ v' w', Sem.run P (Builtin.append_ #[t, t] ty #[v, .slice (some ⟨w.heap.size, 0, none⟩) 1 1]) (w.alloc (.cells #[.int k x] e)) = .ok v' w' ∧ Own k e w' base v' (xs ++ [x]) ∧ Grew w v w' v' := by
  obtain ⟨i, hi, hz, hs, hby⟩ := info_parts hinfo
  have hcell : ∀ j u, ([.int k x] : List Value)[j]? = some u → (w.alloc (.cells #[.int k x] e)).cell? ((⟨w.heap.size, 0, none⟩ : Addr).add j) = some u := by
    intro j u hj
    match j, hj with
    | 0, hj => simp at hj; subst hj; simp [Addr.add]
  obtain ⟨v', w', hrun, hown, hg, _, hloc⟩ := run_append_own_at (P := P) (w.alloc (.cells #[.int k x] e)) base t ty e i (.int k 0) 1 8 ht hi hz hs hby rfl (by omega) v xs.length (xs.map (Value.int k)) (h.1.alloc _)
    ⟨w.heap.size, 0, none⟩ 1 1 [.int k x] rfl hcell (fun u hu => by rw [List.mem_singleton.1 hu]; rfl) (by unfold maxLen; omega) hn (by simp; omega)
  have hsz := hg.size
  simp at hsz
  refine ⟨v', w', hrun, ⟨by simpa using hown, ?_⟩, ⟨hg.os, hg.tape, hg.output, by omega, fun j hj hne => ?_, hloc.imp id fun hh b hb => ?_⟩⟩
  · intro y hy
    rcases List.mem_append.1 hy with h1 | h1
    · exact h.2 y h1
    · rw [List.mem_singleton.1 h1]; exact hx
  · rw [hg.block j (by simp; omega) (fun e => hne e.symm)]
    exact Below.heap_alloc w _ j hj
  · rw [hh] at hb
    injection hb with hb
    simp at hb
    omega

/-- The list while it grows: what one begins with, and what came. -/
structure RX (zs fr : List Int) (w2 : World) (ext : List Int) (v : Value) (wr : World) : Prop where
  own : Own .i64 3 wr w2.heap.size v (fr ++ ext)
  nod : ext.Nodup
  sub : ∀ x ∈ ext, x ∈ livesI zs
  off : ∀ x ∈ ext, x ∉ fr
  reach : ∀ x ∈ ext, Reach (nxOf zs) fr x
  below : Below w2.heap.size w2 wr
/-- What 'x' refers to is in the list. -/
def HasAll (zs X : List Int) (x : Int) : Prop := ∀ y ∈ nxOf zs x, 0 ≤ y → y ∈ X
def ReachJ (zs fr : List Int) (w2 : World) (m : Nat) (p : Value × Value × World) : Prop :=
  ∃ ext ag, p.2.1 = .bool ag ∧ RX zs fr w2 ext p.1 p.2.2 ∧ (ag = false → ∀ x ∈ fr ++ ext, HasAll zs (fr ++ ext) x) ∧ 2 * (256 - ext.length) + (if ag = true then 1 else 0) = m
section
variable {zs fr ext : List Int} {w2 wr wr' : World} {v v' : Value}
theorem RX.len (h : RX zs fr w2 ext v wr) (hl : (livesI zs).length ≤ 256) : ext.length ≤ 256 := Nat.le_trans (sub_length h.nod h.sub) hl
theorem RX.next (h : RX zs fr w2 ext v wr) (hb : Below wr.heap.size wr wr') : RX zs fr w2 ext v wr' := ⟨h.own.below hb, h.nod, h.sub, h.off, h.reach, h.below.trans (hb.mono h.below.size)⟩
theorem RX.push (h : RX zs fr w2 ext v wr) {y : Int} (hy : y ∈ livesI zs) (hr : Reach (nxOf zs) fr y) (hn : y ∉ fr ++ ext) (ho : Own .i64 3 wr' w2.heap.size v' (fr ++ ext ++ [y])) (hg : Grew wr v wr' v') : RX zs fr w2 (ext ++ [y]) v' wr' :=
  ⟨by rw [← List.append_assoc]; exact ho, nodup_snoc h.nod fun hm => hn (List.mem_append_right _ hm), fun x hx => by
    rcases List.mem_append.1 hx with hx | hx
    · exact h.sub x hx
    · rw [List.mem_singleton.1 hx]; exact hy, fun x hx => by
    rcases List.mem_append.1 hx with hx | hx
    · exact h.off x hx
    · rw [List.mem_singleton.1 hx]; exact fun hm => hn (List.mem_append_left _ hm), fun x hx => by
    rcases List.mem_append.1 hx with hx | hx
    · exact h.reach x hx
    · rw [List.mem_singleton.1 hx]; exact hr, h.below.trans (hg.below h.below.size h.own.row)⟩
theorem RX.has (h : RX zs fr w2 ext v wr) {x : Int} (hx : x ∈ fr ++ ext) : Reach (nxOf zs) fr x := by
  rcases List.mem_append.1 hx with hx | hx
  · exact .base hx
  · exact h.reach x hx
end

/-- The header that the reference finds, or none. -/
theorem headLive_any (A : Option Addr) (n c t : Nat) (zs : List Int) (w : World) (ha : Arr .u64 w w.heap.size A n zs) (h : arErr zs = 0) (ht : (t : Int) ∈ livesI zs) :
    Calls Try.prog 44 #[.slice A n c, .int .i64 t] w fun e w' => e = .returned (.tuple #[.agg #[.int .i64 (vR (nth zs t)), .int .i64 (vB (nth zs t)), .int .i64 (vT (nth zs t)), .bool false], .bool true]) ∧ Below w.heap.size w w' := by
  obtain ⟨j, hj, e0, hf⟩ := mem_lives.1 ht
  refine (headAt_any A n c (t : Int) zs w ha (arErr_zero h).1).mono ?_
  rintro e w' ⟨b, h⟩
  rcases h with ⟨i, hi, e1, _, he⟩ | ⟨hno, _⟩
  · have : st zs i = t := by omega
    rw [this] at he
    exact ⟨he, b⟩
  · have := hno j hj e0.symm
    rw [hf] at this
    cases this
theorem headNone_any (A : Option Addr) (n c : Nat) (a : Int) (zs : List Int) (w : World) (ha : Arr .u64 w w.heap.size A n zs) (h : arErr zs = 0) (ht : a ∉ livesI zs) :
    Calls Try.prog 44 #[.slice A n c, .int .i64 a] w fun e w' => e = .returned (.tuple #[.agg #[.int .i64 0, .int .i64 0, .int .i64 0, .bool false], .bool false]) ∧ Below w.heap.size w w' := by
  refine (headAt_any A n c a zs w ha (arErr_zero h).1).mono ?_
  rintro e w' ⟨b, h⟩
  rcases h with ⟨i, hi, e1, hf, _⟩ | ⟨_, he⟩
  · exact absurd (mem_lives.2 ⟨i, hi, e1.symm, hf⟩) ht
  · exact ⟨he, b⟩
theorem headAny_any (A : Option Addr) (n c : Nat) (a : Int) (zs : List Int) (w : World) (ha : Arr .u64 w w.heap.size A n zs) (h : arErr zs = 0) :
    Calls Try.prog 44 #[.slice A n c, .int .i64 a] w fun e w' => ∃ x1 x2 x3, e = .returned (.tuple #[.agg #[.int .i64 x1, .int .i64 x2, .int .i64 x3, .bool false], .bool (decide (a ∈ livesI zs))]) ∧ Below w.heap.size w w' := by
  by_cases hl : a ∈ livesI zs
  · obtain ⟨t, rfl⟩ : ∃ t : Nat, a = t := ⟨a.toNat, by have := lives_pos a hl; omega⟩
    exact (headLive_any A n c t zs w ha h hl).mono fun e w' h => ⟨vR (nth zs t), vB (nth zs t), vT (nth zs t), by rw [h.1]; simp [hl], h.2⟩
  · exact (headNone_any A n c a zs w ha h hl).mono fun e w' h => ⟨0, 0, 0, by rw [h.1]; simp [hl], h.2⟩
set_option maxRecDepth 8000 in
set_option maxHeartbeats 1000000 in
theorem fromFaults_any (A : Option Addr) (n c m g : Nat) (As : Nat → Option Addr) (ns cs : Nat → Nat) (xs : Nat → List Int) (zs fr : List Int) (w : World) (hn : n ≤ maxLen) (ha : Arr .u64 w w.heap.size A n zs) (hm : m ≤ 100) (hns : ∀ i, i < m → ns i ≤ maxLen) (hxs : ∀ i, i < m → Arr .i64 w w.heap.size (As i) (ns i) (xs i))
    (hg : g < w.heap.size) (hc : ∀ i, i < m → w.cell? ⟨g, i, none⟩ = some (.slice (As i) (ns i) (cs i))) (hfr : ∀ x, x ∈ fr ↔ ∃ i, i < m ∧ x ∈ xs i) :
    Calls Try.prog 12 #[.slice A n c, .slice (some ⟨g, 0, none⟩) m m] w fun e w' => e = .returned (.int .i64 (fromE zs fr)) ∧ Below w.heap.size w w' := by
  have HAF := Lib.hid (ArenaFault_any A n c zs w hn ha)
  by_cases h : arErr zs = 0
  · rw [h] at HAF
    have HA := Lib.hid ha
    have HX := Lib.hid hxs
    have HNS := Lib.hid hns
    have H0 := Lib.hid h
    have HG := Lib.hid hg
    have HCC := Lib.hid hc
    have HFR := Lib.hid hfr
    clear ha hxs h hn hg hc hns hfr
    go_enter Try.func12, Try.ntmps12
    go_wp2_with fail
    refine HAF.out.mono ?_
    rintro e w1 ⟨rfl, b1⟩
    have HB1 := Lib.hid b1
    have HBG := Lib.hid (begins_any A n c zs w1 (HA.out.later b1) (arErr_zero H0.out).1)
    clear b1 HAF
    go_wp2_with fail
    refine HBG.out.mono ?_
    rintro e w2 ⟨A2, c2, rfl, b2, hA2⟩
    have HB2 := Lib.hid (bthen HB1.out b2)
    have HA2 := Lib.hid hA2
    clear b2 hA2 HBG HB1
    obtain ⟨ln, hln⟩ : ∃ q, (livesI zs).length = q := ⟨_, rfl⟩
    rw [hln] at HA2 ⊢
    have hln2 : ln ≤ 256 := by rw [← hln]; exact lives_len (arena_len H0.out)
    clear hln
    go_wp2_with fail
    go_loopw [20] (fun i wr => w2 = wr ∧ ∃ k : Nat, k ≤ m ∧ i = .int .i64 k ∧ Hid (∀ i, i < k → ∀ x ∈ xs i, x ∈ livesI zs)) (fun i _ => m - (intOf i).toNat)
    case atStart => exact ⟨rfl, 0, Nat.zero_le _, rfl, fun i hi => absurd hi (by omega)⟩
    case round =>
      obtain ⟨rfl, k, hk, rfl, HP⟩ := hrel
      by_cases hlt : k < m
      · have d0 : w2.cell? ⟨g, k, none⟩ = some (.slice (As k) (ns k) (cs k)) := (HB2.out.cell (p := ⟨g, k, none⟩) HG.out).trans (HCC.out k hlt)
        have HF2 := Lib.hid ((HX.out k hlt).later HB2.out)
        have hnk := HNS.out k hlt
        unfold maxLen at hnk
        obtain ⟨F, hF⟩ : ∃ F, As k = F := ⟨_, rfl⟩
        obtain ⟨nf, hnf⟩ : ∃ nf, ns k = nf := ⟨_, rfl⟩
        obtain ⟨cf, hcf⟩ : ∃ cf, cs k = cf := ⟨_, rfl⟩
        obtain ⟨fx, hfx⟩ : ∃ fx, xs k = fx := ⟨_, rfl⟩
        have HFX := Lib.hid hfx
        rw [hF, hnf, hcf] at d0
        rw [hF, hnf, hfx] at HF2
        rw [hnf] at hnk
        clear hF hnf hcf hfx
        go_wp2_with fail
        go_loopw [26] (fun i wr => w2 = wr ∧ ∃ j : Nat, j ≤ nf ∧ i = .int .i64 j ∧ Hid (∀ i, i < j → nth fx i ∈ livesI zs)) (fun i _ => nf - (intOf i).toNat)
        case atStart => exact ⟨rfl, 0, Nat.zero_le _, rfl, (fun i hi => absurd hi (by omega))⟩
        case round =>
          obtain ⟨rfl, j, hj, rfl, HQ⟩ := hrel
          clear d0
          by_cases hlt2 : j < nf
          · obtain ⟨b, off, rfl, _, hcs⟩ := HF2.out.2.2 (by omega)
            have hcj := hcs j hlt2
            have HI := Lib.hid (in_ref A2 ln c2 _ (nth fx j) (livesI zs) w2 (by unfold maxLen; omega) HA2.out)
            clear hcs
            by_cases hin : nth fx j ∈ livesI zs
            · rw [show decide (nth fx j ∈ livesI zs) = true by simpa using hin] at HI
              have HPN : Hid (∀ i, i < j + 1 → nth fx i ∈ livesI zs) := fun i hi => by
                rcases Nat.lt_succ_iff_lt_or_eq.1 hi with h1 | h1
                · exact HQ.out i h1
                · rw [h1]; exact hin
              clear hin HQ
              generalize nth fx j = X at *
              go_wp2_with fail
              refine HI.out.mono ?_
              rintro e w3 ⟨rfl, rfl⟩
              go_wp2
              go_roundw
              case rel => exact ⟨by trivial, j + 1, by omega, by go_num, HPN⟩
              case measure => simp [intOf]; omega
            · rw [show decide (nth fx j ∈ livesI zs) = false by simpa using hin] at HI
              have HE : Hid (fromE zs fr = 5) := fromE_none H0.out (x := nth fx j) ((HFR.out _).2 ⟨k, hlt, by rw [HFX.out]; exact nth_mem (by have := HF2.out.1; omega)⟩) hin
              clear hin HQ
              generalize nth fx j = X at *
              go_wp2_with fail
              refine HI.out.mono ?_
              rintro e w3 ⟨rfl, rfl⟩
              go_wp2
              go_ret
              exact ⟨by rw [HE.out]; rfl, HB2.out⟩
          · obtain rfl : j = nf := by omega
            have HP2 : Hid (∀ i, i < k + 1 → ∀ x ∈ xs i, x ∈ livesI zs) := fun i hi x hx => by
              rcases Nat.lt_succ_iff_lt_or_eq.1 hi with h1 | h1
              · exact HP.out i h1 x hx
              · rw [h1, HFX.out] at hx
                obtain ⟨i, hi, e⟩ := List.getElem_of_mem hx
                have := HQ.out i (by have := HF2.out.1; omega)
                rw [nth_get _ _ hi, e] at this
                exact this
            clear HQ HP
            go_wp2
            go_roundw
            case rel => exact ⟨by trivial, k + 1, by omega, by go_num, HP2⟩
            case measure => simp [intOf]; omega
      · obtain rfl : k = m := by omega
        have HE : Hid (fromE zs fr = 0) := fromE_ok H0.out fun x hx => by
          obtain ⟨i, hi, hm⟩ := (HFR.out x).1 hx
          exact HP.out i hi x hm
        clear HP
        go_wp2
        go_ret
        exact ⟨by rw [HE.out]; rfl, HB2.out⟩
  · have HE := Lib.hid (fromE_arena (fr := fr) h)
    have hb : (arErr zs != 0) = true := by simpa using h
    clear ha hxs h hc
    generalize arErr zs = E at *
    go_enter Try.func12, Try.ntmps12
    go_wp2_with fail
    refine HAF.out.mono ?_
    rintro e w1 ⟨rfl, b1⟩
    have HB1 := Lib.hid b1
    clear b1 HAF
    go_wp2
    go_ret
    exact ⟨by rw [HE.out]; rfl, HB1.out⟩
theorem two_lists {g b : List Int} (x : Int) : x ∈ g ++ b ↔ ∃ i, i < 2 ∧ x ∈ (if i = 0 then g else b) := by
  rw [List.mem_append]
  constructor
  · rintro (h | h)
    · exact ⟨0, by omega, by simpa using h⟩
    · exact ⟨1, by omega, by simpa using h⟩
  · rintro ⟨i, hi, h⟩
    by_cases e : i = 0
    · rw [if_pos e] at h; exact .inl h
    · rw [if_neg e] at h; exact .inr h
end Go.Proofs.Ytjefbekdjgmmbaa
