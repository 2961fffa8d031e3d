/-
  Package tally: release, and what goes when counts come down.
-/
import Derived.Test.YtgekghlmkfkbjaaTallyQ
import Derived.Test.YtgekghlmkfkbjaaSortI
import Derived.Test.YtgekghlmkfkbjaaRefT
namespace Go.Proofs.Ytgekghlmkfkbjaa
open Go.RowKit

/-- Counts come down: 'L' has those that go so far, the first 'i' of them name no one any more, nor does the next one by 'd'. -/
structure RlM (zs fr L : List Int) (i : Nat) (d : List Int) (f : Int → Int) : Prop where
  nd : L.Nodup
  sub : ∀ x ∈ L, x ∈ livesI zs
  le : i ≤ L.length
  cnt : ∀ x ∈ livesI zs, f x + ((refsL zs (L.take i) ++ d).count x : Int) = ((fr ++ refsL zs (livesI zs)).count x : Int)
  zero : ∀ x ∈ livesI zs, (x ∈ L ↔ f x = 0)
  stay : ∀ x ∈ L, x ∉ stayL zs fr
section
variable {zs fr L d : List Int} {i j : Nat} {f : Int → Int} {x y : Int}
theorem tlives_nodup : (livesI zs).Nodup := lives_rise.imp fun h => by omega
theorem RlM.start (h : ∀ x ∈ livesI zs, f x = ((fr ++ refsL zs (livesI zs)).count x : Int)) : RlM zs fr ((livesI zs).filter fun x => decide (f x = 0)) 0 [] f := by
  refine ⟨tlives_nodup.sublist List.filter_sublist, fun x hx => (List.mem_filter.1 hx).1, Nat.zero_le _, fun x hx => ?_, fun x hx => ?_, fun x hx => ?_⟩
  · rw [h x hx]
    simp [refsL]
  · rw [List.mem_filter, decide_eq_true_eq]
    exact ⟨fun h => h.2, fun h => ⟨hx, h⟩⟩
  · obtain ⟨h1, h2⟩ := List.mem_filter.1 hx
    rw [decide_eq_true_eq, h x h1] at h2
    refine stay_keep (S := livesI zs) (fun y hy => stayL_lives hy) ?_
    rw [cnt_refs (lives_lt h1).1]
    omega
theorem RlM.len (h : RlM zs fr L i d f) : L.length ≤ (livesI zs).length := sub_length h.nd h.sub
theorem ttake_next (hi : i < L.length) : L.take (i + 1) = L.take i ++ [nth L i] := by rw [List.take_succ_eq_append_getElem hi, nth_get _ _ hi]
/-- One that is named still has a count; if it is the last, nobody who stays names it. -/
theorem RlM.has (h : RlM zs fr L i ((refL zs (nth L i)).take j) f) (hi : i < L.length) (hj : j < (refL zs (nth L i)).length) (hx : nth (refL zs (nth L i)) j ∈ livesI zs) :
    1 ≤ f (nth (refL zs (nth L i)) j) ∧ (f (nth (refL zs (nth L i)) j) = 1 → nth (refL zs (nth L i)) j ∉ stayL zs fr) := by
  have hc := h.cnt _ hx
  have h1 := refs_sub (zs := zs) (x := nth (refL zs (nth L i)) j) (A := L.take (i + 1)) (B := livesI zs) (h.nd.sublist (List.take_sublist _ _)) fun y hy => h.sub y (List.mem_of_mem_take hy)
  have h2 : ((refL zs (nth L i)).take (j + 1)).count (nth (refL zs (nth L i)) j) ≤ (refL zs (nth L i)).count (nth (refL zs (nth L i)) j) := (List.take_sublist _ _).count_le _
  rw [ttake_next hj, List.count_append, List.count_singleton_self] at h2
  have h3 : refsL zs (L.take (i + 1)) = refsL zs (L.take i) ++ refL zs (nth L i) := by rw [ttake_next hi, refsL_app, refsL_one]
  rw [List.count_append, List.count_append] at hc
  rw [h3, List.count_append] at h1
  refine ⟨by omega, fun hf hs => ?_⟩
  have h4 := refs_sub (zs := zs) (x := nth (refL zs (nth L i)) j) (A := L.take (i + 1) ++ stayL zs fr) (B := livesI zs) ?_ ?_
  · rw [refsL_app, List.count_append, h3, List.count_append] at h4
    have h5 := stayL_named hs
    rw [cnt_refs (lives_lt hx).1, List.count_append] at h5
    omega
  · refine List.nodup_append.2 ⟨h.nd.sublist (List.take_sublist _ _), stayL_rise.imp fun h => by omega, fun a ha b hb e => ?_⟩
    rw [e] at ha
    exact h.stay b (List.mem_of_mem_take ha) hb
  · intro y hy
    rcases List.mem_append.1 hy with hy | hy
    · exact h.sub y (List.mem_of_mem_take hy)
    · exact stayL_lives hy
/-- Its count comes down by one. -/
theorem RlM.down (h : RlM zs fr L i ((refL zs (nth L i)).take j) f) (hi : i < L.length) (hj : j < (refL zs (nth L i)).length) (hx : nth (refL zs (nth L i)) j ∈ livesI zs) :
    (f (nth (refL zs (nth L i)) j) ≠ 1 → RlM zs fr L i ((refL zs (nth L i)).take (j + 1)) fun z => if z = nth (refL zs (nth L i)) j then f (nth (refL zs (nth L i)) j) - 1 else f z) ∧
    (f (nth (refL zs (nth L i)) j) = 1 → RlM zs fr (L ++ [nth (refL zs (nth L i)) j]) i ((refL zs (nth (L ++ [nth (refL zs (nth L i)) j]) i)).take (j + 1)) fun z => if z = nth (refL zs (nth L i)) j then f (nth (refL zs (nth L i)) j) - 1 else f z) := by
  obtain ⟨h1, h2⟩ := h.has hi hj hx
  have hno : nth (refL zs (nth L i)) j ∉ L := fun hm => by
    have := (h.zero _ hx).1 hm
    omega
  have hcnt : ∀ x ∈ livesI zs, (if x = nth (refL zs (nth L i)) j then f (nth (refL zs (nth L i)) j) - 1 else f x) + ((refsL zs (L.take i) ++ (refL zs (nth L i)).take (j + 1)).count x : Int) = ((fr ++ refsL zs (livesI zs)).count x : Int) := fun x hxl => by
    have := h.cnt x hxl
    rw [List.count_append] at this
    rw [ttake_next hj, List.count_append, List.count_append, List.count_singleton]
    by_cases he : x = nth (refL zs (nth L i)) j
    · rw [if_pos he, ← he]
      simp only [beq_self_eq_true, if_true]
      omega
    · rw [if_neg he, if_neg (by simpa using fun e => he e.symm)]
      omega
  constructor
  · intro hf
    refine ⟨h.nd, h.sub, h.le, hcnt, fun x hxl => ?_, h.stay⟩
    by_cases he : x = nth (refL zs (nth L i)) j
    · rw [if_pos he, he]
      exact ⟨fun hm => absurd hm hno, fun h0 => by omega⟩
    · rw [if_neg he]
      exact h.zero x hxl
  · intro hf
    have hn : nth (L ++ [nth (refL zs (nth L i)) j]) i = nth L i := by rw [nth_get _ _ (by rw [List.length_append]; omega), nth_get _ _ hi, List.getElem_append_left]
    refine ⟨?_, ?_, by rw [List.length_append]; omega, fun x hxl => ?_, fun x hxl => ?_, fun x hm => ?_⟩
    · exact List.nodup_append.2 ⟨h.nd, by simp, fun a ha b hb e => hno (by rw [List.mem_singleton] at hb; rw [← hb, ← e]; exact ha)⟩
    · intro x hm
      rcases List.mem_append.1 hm with hm | hm
      · exact h.sub x hm
      · rw [List.mem_singleton.1 hm]; exact hx
    · rw [hn, List.take_append_of_le_length (by omega)]
      exact hcnt x hxl
    · by_cases he : x = nth (refL zs (nth L i)) j
      · rw [if_pos he, he]
        exact ⟨fun _ => by omega, fun _ => List.mem_append_right _ (List.mem_singleton.2 rfl)⟩
      · rw [if_neg he, List.mem_append, List.mem_singleton]
        exact ⟨fun hm => (h.zero x hxl).1 (hm.resolve_right he), fun h0 => .inl ((h.zero x hxl).2 h0)⟩
    · rcases List.mem_append.1 hm with hm | hm
      · exact h.stay x hm
      · rw [List.mem_singleton.1 hm]; exact h2 hf
theorem RlM.next (h : RlM zs fr L i (refL zs (nth L i)) f) (hi : i < L.length) : RlM zs fr L (i + 1) [] f :=
  ⟨h.nd, h.sub, hi, fun x hx => by have := h.cnt x hx; rw [ttake_next hi, refsL_app, refsL_one, List.append_nil]; exact this, h.zero, h.stay⟩
/-- When all have been gone over, those that go are just they. -/
theorem RlM.all (h : RlM zs fr L L.length [] f) (x : Int) : x ∈ L ↔ x ∈ goneL zs fr := by
  rw [gone_mem]
  refine ⟨fun hx => ⟨h.sub x hx, h.stay x hx⟩, fun ⟨hx, hs⟩ => ?_⟩
  by_cases hL : x ∈ L
  · exact hL
  refine absurd (stayL_holds (S := (livesI zs).filter fun y => decide (y ∉ L)) (fun y hy => (List.mem_filter.1 hy).1) (fun y hy => ?_) x (List.mem_filter.2 ⟨hx, by simpa using hL⟩)) hs
  obtain ⟨hyl, hyL⟩ := List.mem_filter.1 hy
  have hyL : y ∉ L := by simpa using hyL
  have h0 : f y ≠ 0 := fun h0 => hyL ((h.zero y hyl).2 h0)
  have hc := h.cnt y hyl
  rw [List.take_length, List.append_nil, List.count_append] at hc
  have h1 := refs_sub (zs := zs) (x := y) (A := L) (B := livesI zs) h.nd h.sub
  have h2 := refs_sub (zs := zs) (x := y) (A := livesI zs) (B := L ++ (livesI zs).filter fun y => decide (y ∉ L)) tlives_nodup fun z hz => by
    by_cases hzL : z ∈ L
    · exact List.mem_append_left _ hzL
    · exact List.mem_append_right _ (List.mem_filter.2 ⟨hz, by simpa using hzL⟩)
  rw [refsL_app, List.count_append] at h2
  rw [cnt_refs (lives_lt hyl).1, List.count_append]
  omega
theorem gone_sort (hn : L.Nodup) (h : ∀ x, x ∈ L ↔ x ∈ goneL zs fr) : sortL L = goneL zs fr := by
  refine rise_ext ?_ gone_rise fun x => by rw [sortL_mem]; exact h x
  have h1 := sortL_sorted L
  have h2 : (sortL L).Nodup := (List.mergeSort_perm L _).nodup_iff.2 hn
  exact (h1.and h2).imp fun ⟨a, b⟩ => by omega
end
/-- A tally below block 'B'. -/
structure TlB (zs : List Int) (B : Nat) (w : World) (gc gr N : Nat) (S : Option Addr) (q : Nat) (f : Int → Int) : Prop where
  cn : MapF Try.prog .i64 .i64 3 3 w gc N (cnIn (livesI zs) f)
  rf : ∃ R : Int → Value, MapV Try.prog .i64 3 w gr 300 (rvIn (livesI zs) R) ∧ ∀ x ∈ livesI zs, ∃ A c, R x = .slice A (refL zs x).length c ∧ Arr .i64 w B A (refL zs x).length (refL zs x)
  st : Arr .i64 w B S q (livesI zs)
  ne : gc ≠ gr
  c1 : gc < B
  c2 : gr < B
section
variable {zs : List Int} {w w' : World} {B B' gc gr N q : Nat} {S : Option Addr} {f f' : Int → Int}
theorem TlI.low (h : TlI zs w gc gr N S q f) : TlB zs w.heap.size w gc gr N S q f := by
  obtain ⟨R, h1, h2⟩ := h.rf
  refine ⟨h.cn, ⟨R, h1, fun x hx => ?_⟩, h.st, h.ne, h.cn.lt, h1.lt⟩
  obtain ⟨A, c, h3, h4, _⟩ := h2 x hx
  exact ⟨A, c, h3, h4⟩
theorem TlB.below (h : TlB zs B w gc gr N S q f) (hb : Below B' w w') (hB : B ≤ B') : TlB zs B w' gc gr N S q f := by
  obtain ⟨R, h1, h2⟩ := h.rf
  have c1 := h.c1
  have c2 := h.c2
  refine ⟨h.cn.below hb (by omega), ⟨R, h1.below hb (by omega), fun x hx => ?_⟩, h.st.below hb hB, h.ne, h.c1, h.c2⟩
  obtain ⟨A, c, h3, h4⟩ := h2 x hx
  exact ⟨A, c, h3, h4.below hb hB⟩
theorem TlB.only (h : TlB zs B w gc gr N S q f) (ho : w.grownBy w' (some gc)) {N' : Nat} (hm : MapF Try.prog .i64 .i64 3 3 w' gc N' (cnIn (livesI zs) f')) : TlB zs B w' gc gr N' S q f' := by
  obtain ⟨R, h1, h2⟩ := h.rf
  refine ⟨hm, ⟨R, h1.keep (ho.block gr h1.lt (by intro e; injection e with e; exact h.ne e.symm)), fun x hx => ?_⟩, h.st.keepMap h.cn.nocell ho, h.ne, h.c1, h.c2⟩
  obtain ⟨A, c, h3, h4⟩ := h2 x hx
  exact ⟨A, c, h3, h4.keepMap h.cn.nocell ho⟩
end
/-- What holds while release goes on. -/
structure ReI (zs fr : List Int) (w : World) (B0 gc gr : Nat) (S : Option Addr) (q sc N : Nat) (L : List Int) (i : Nat) (d : List Int) (f : Int → Int) (v : Value) (wr : World) : Prop where
  box : Box wr w.heap.size 48 #[.map (some gc), .map (some gr), .slice S q sc]
  tl : TlB zs w.heap.size wr gc gr N S q f
  own : Own .i64 3 wr (w.heap.size + 1) v L
  below : Below B0 w wr
  o1 : B0 ≤ gc
  o2 : B0 ≤ w.heap.size
  rl : RlM zs fr L i d f
section
variable {zs fr L L' d d' : List Int} {w wr wr' : World} {B0 gc gr q sc N N' i i' : Nat} {S : Option Addr} {f f' : Int → Int} {v v' : Value}
theorem ReI.next (h : ReI zs fr w B0 gc gr S q sc N L i d f v wr) (hb : Below wr.heap.size wr wr') : ReI zs fr w B0 gc gr S q sc N L i d f v wr' :=
  ⟨h.box.below hb h.box.lt, h.tl.below hb (Nat.le_of_lt h.box.lt), h.own.below hb, h.below.trans (hb.mono h.below.size |>.mono h.o2), h.o1, h.o2, h.rl⟩
theorem ReI.mono (h : ReI zs fr w B0 gc gr S q sc N L i d f v wr) (hn : N ≤ N') (hr : RlM zs fr L i' d' f) : ReI zs fr w B0 gc gr S q sc N' L i' d' f v wr :=
  ⟨h.box, ⟨h.tl.cn.mono hn, h.tl.rf, h.tl.st, h.tl.ne, h.tl.c1, h.tl.c2⟩, h.own, h.below, h.o1, h.o2, hr⟩
theorem ReI.look (h : ReI zs fr w B0 gc gr S q sc N L i d f v wr) {x : Int} (hx : x ∈ livesI zs) (hw : (Lit.int .i64 x).wf = true) : Sem.run Try.prog (Instr.lookup 45 (.map (some gc)) (.int .i64 x) false) wr = .ok (.int .i64 (f x)) wr ∧ (Lit.int .i64 (f x)).wf = true := by
  have h1 := h.tl.cn.look countT hw
  have h2 := h.tl.cn.wf countT hw
  rw [cnIn_in hx] at h1 h2
  exact ⟨h1, h2⟩
/-- A count is written .. -/
theorem ReI.count (h : ReI zs fr w B0 gc gr S q sc N L i d f v wr) {x y : Int} (hx : x ∈ livesI zs) (hg : wr.grownBy wr' (some gc)) (hm : MapF Try.prog .i64 .i64 3 3 wr' gc (N + 1) (put (cnIn (livesI zs) f) x y)) :
    Box wr' w.heap.size 48 #[.map (some gc), .map (some gr), .slice S q sc] ∧ TlB zs w.heap.size wr' gc gr (N + 1) S q (fun z => if z = x then y else f z) ∧ Own .i64 3 wr' (w.heap.size + 1) v L ∧ Below B0 w wr' := by
  have c1 := h.tl.c1
  have hs := h.below.size
  have o1 := h.o1
  have o2 := h.o2
  rw [cnIn_put hx] at hm
  exact ⟨h.box.grown hg (by omega), h.tl.only hg hm, h.own.keepB fun j hj hlt => hg.block j hlt (by intro e; injection e; omega), h.below.trans (grown_below hg h.o1 (by omega))⟩
end

set_option maxRecDepth 8000 in
set_option maxHeartbeats 4000000 in
theorem release_any (gc gr N q sc B0 : Nat) (S : Option Addr) (zs fr : List Int) (f : Int → Int) (w : World) (hB1 : B0 ≤ gc) (hB2 : B0 ≤ w.heap.size) (hN : N ≤ 2 ^ 49) (hz : ∀ z ∈ zs, (Lit.int .u64 z).wf = true) (har : arErr zs = 0) (hT : TlI zs w gc gr N S q f) (hf : ∀ x ∈ livesI zs, f x = ((fr ++ refsL zs (livesI zs)).count x : Int)) :
    Calls Try.prog 33 #[.agg #[.map (some gc), .map (some gr), .slice S q sc]] w fun e w' => ∃ A c, e = .returned (.slice A (goneL zs fr).length c) ∧ Below B0 w w' ∧ (goneL zs fr).length ≤ c ∧ Arr .i64 w' w'.heap.size A (goneL zs fr).length (goneL zs fr) := by
  have h256 := arena_len har
  have hll := lives_len h256
  have hq : (livesI zs).length = q := hT.st.1
  have HQ := Lib.hid hq
  have HRIN : Hid (∀ y ∈ livesI zs, ∀ x ∈ refL zs y, x ∈ livesI zs) := fun y hy x hx => refL_in hz har hy hx
  have HRLN : Hid (∀ y, (refL zs y).length ≤ 256) := fun y => refL_len h256
  have HLW : Hid (∀ y ∈ livesI zs, (Lit.int .i64 y).wf = true) := fun y hy => by
    have := lives_lt hy
    exact wf_i64.2 (by omega)
  have b1 := (Below.refl _ w).alloc (Nat.le_refl _) (.cells #[.map (some gc), .map (some gr), .slice S q sc] 48)
  have BX := Lib.hid (Box.new w 48 #[.map (some gc), .map (some gr), .slice S q sc])
  have HT := Lib.hid (hT.low.below b1 (Nat.le_refl _))
  have HB1 := Lib.hid b1
  have HF := Lib.hid hf
  have hs1 : (w.alloc (.cells #[.map (some gc), .map (some gr), .slice S q sc] 48)).heap.size = w.heap.size + 1 := by simp
  have HS1 := Lib.hid hs1
  have e2 : (w.alloc (.cells #[.map (some gc), .map (some gr), .slice S q sc] 48)).cell? ⟨w.heap.size, 2, none⟩ = some (.slice S q sc) := BX.out.cell 2
  clear b1 hs1 hT hf hz har
  go_enter Try.func33, Try.ntmps33
  go_wp2_with fail
  clear e2
  generalize (w.alloc (.cells #[.map (some gc), .map (some gr), .slice S q sc] 48)) = W1 at *
  go_loopw [3, 12] (fun v i wr => ∃ j : Nat, j ≤ q ∧ i = .int .i64 j ∧ Hid (Own .i64 3 wr (w.heap.size + 1) v (((livesI zs).take j).filter fun x => decide (f x = 0))) ∧ Hid (Below W1.heap.size W1 wr)) (fun _ i _ => q - (intOf i).toNat)
  case atStart => exact ⟨0, Nat.zero_le _, rfl, Own.nil, Below.refl _ _⟩
  case round =>
    obtain ⟨j, hj, rfl, HOW, HO⟩ := hrel
    have hs1 := HS1.out
    by_cases hlt : j < q
    · have hTn := HT.out.below HO.out (by omega)
      obtain ⟨b, off, rfl, _, hcs⟩ := hTn.st.2.2 (by omega)
      have hc := hcs j hlt
      have hmem : nth (livesI zs) j ∈ livesI zs := nth_mem (by omega)
      have hwf := HLW.out _ hmem
      have d0 : wr.cell? ⟨w.heap.size, 0, none⟩ = some (.map (some gc)) := (BX.out.below HO.out (by omega)).cell 0
      have hlk := hTn.cn.look countT hwf
      rw [cnIn_in hmem] at hlk
      have HTK : Hid ((((livesI zs).take (j + 1)).filter fun x => decide (f x = 0)) = (((livesI zs).take j).filter fun x => decide (f x = 0)) ++ (if f (nth (livesI zs) j) = 0 then [nth (livesI zs) j] else [])) := by
        show _ = _
        rw [ttake_next (by omega), List.filter_append]
        congr 1
        rw [List.filter_cons, List.filter_nil]
        by_cases h0 : f (nth (livesI zs) j) = 0 <;> simp [h0]
      have hfl : (((livesI zs).take j).filter fun x => decide (f x = 0)).length ≤ 256 := Nat.le_trans (List.length_filter_le _ _) (by rw [List.length_take]; omega)
      clear hcs hmem hTn
      by_cases h0 : f (nth (livesI zs) j) = 0
      · have hT2 := HTK.out
        rw [if_pos h0] at hT2
        rw [h0] at hlk
        obtain ⟨v', w5, hrun, hO', hB'⟩ := HOW.out.push (P := Try.prog) (t := 23) (ty := 23) Try.underlying23 intI_info (by omega) (x := nth (livesI zs) j) hwf (by omega) (by have := HO.out.size; omega)
        rw [← hT2] at hO'
        have HRN := Lib.hid hrun
        have HOW2 := Lib.hid hO'
        have HO3 := Lib.hid (HO.out.trans (hB'.mono (by omega)))
        clear hrun hO' hB' hT2 HTK HOW HO h0 hwf hfl
        generalize nth (livesI zs) j = X at *
        go_wp2_with (at_builtin; refine wpList_append_run rfl (.tmp 21) (.tmp 23) 23 rfl rfl rfl HRN.out ?_)
        go_roundw
        case rel => exact ⟨j + 1, by omega, by go_num, HOW2.out, HO3.out⟩
        case measure => simp [intOf]; omega
      · have hT2 := HTK.out
        rw [if_neg h0, List.append_nil] at hT2
        rw [← hT2] at HOW
        have c0 : (f (nth (livesI zs) j) == 0) = false := by simpa using h0
        clear hT2 HTK h0 hwf hfl
        generalize f (nth (livesI zs) j) = C at *
        generalize nth (livesI zs) j = X at *
        go_wp2
        go_roundw
        case rel => exact ⟨j + 1, by omega, by go_num, HOW.out, HO.out⟩
        case measure => simp [intOf]; omega
    · obtain rfl : j = q := by omega
      rw [List.take_of_length_le (by omega)] at HOW
      obtain ⟨A3, c3, rfl, _, _⟩ := HOW.out.arr
      have hI : ReI zs fr w B0 gc gr S j sc N ((livesI zs).filter fun x => decide (f x = 0)) 0 [] f (.slice A3 ((livesI zs).filter fun x => decide (f x = 0)).length c3) wr :=
        ⟨BX.out.below HO.out (by omega), HT.out.below HO.out (by omega), HOW.out, (HB1.out.mono hB2).trans (HO.out.mono (by omega)), hB1, hB2, RlM.start HF.out⟩
      have HI := Lib.hid hI
      clear hI HOW HO hlt HF
      obtain ⟨l0, hl0⟩ : ∃ m, ((livesI zs).filter fun x => decide (f x = 0)).length = m := ⟨_, rfl⟩
      rw [hl0] at HI ⊢
      clear hl0
      go_wp2_with fail
      generalize wr = W20 at *
      go_loopw [3, 6] (fun v i wr => ∃ (L : List Int) (k : Nat) (f' : Int → Int), i = .int .i64 k ∧ Hid (ReI zs fr w B0 gc gr S j sc (N + 256 * k) L k [] f' v wr)) (fun _ i _ => 257 - (intOf i).toNat)
      case atStart => exact ⟨_, 0, f, rfl, HI.out⟩
      case round =>
        obtain ⟨L, k, f', rfl, hK⟩ := hrel
        clear HI
        obtain ⟨A, c, rfl, hAc, hAr⟩ := hK.out.own.arr
        have hLq := hK.out.rl.len
        have hkL := hK.out.rl.le
        by_cases hlt : k < L.length
        · obtain ⟨b, off, rfl, _, hcs⟩ := hAr.2.2 (by omega)
          have hc := hcs k hlt
          have hmem : nth L k ∈ livesI zs := hK.out.rl.sub _ (nth_mem hlt)
          have hwf := HLW.out _ hmem
          have d1 : wr.cell? ⟨w.heap.size, 1, none⟩ = some (.map (some gr)) := hK.out.box.cell 1
          obtain ⟨R, hR, hRL⟩ := hK.out.tl.rf
          obtain ⟨A', c', hA', hAr'⟩ := hRL _ hmem
          have hlk := fun q => (hR.drewN q).look namesT hwf
          rw [show rvIn (livesI zs) R (nth L k) = some (R (nth L k)) from if_pos hmem, Option.getD_some, hA'] at hlk
          have HAr := Lib.hid hAr'
          have HIN := Lib.hid (HRIN.out _ hmem)
          have HLN := Lib.hid (HRLN.out (nth L k))
          have HLT := Lib.hid hlt
          have hk256 : k < 256 := by omega
          clear hcs hR hRL hA' hAr hAr' hmem R hkL hAc
          obtain ⟨Y, hY⟩ : ∃ Y, nth L k = Y := ⟨_, rfl⟩
          rw [hY] at hlk HAr HIN HLN hc hwf
          have HY := Lib.hid hY
          obtain ⟨ln, hln⟩ : ∃ ln, (refL zs Y).length = ln := ⟨_, rfl⟩
          have HLL := Lib.hid hln
          rw [hln] at hlk HAr HLN
          obtain ⟨M, hM⟩ : ∃ M, L.length = M := ⟨_, rfl⟩
          rw [hM] at hK hlt hLq ⊢
          clear hln hM hY
          go_wp2_with fail
          go_quiet (fail)
          have hK2 := hK.out.next (wr' := wr.drewN nq) (below_drewN (Below.refl _ _) nq)
          have HAr2 := Lib.hid (HAr.out.drewN nq)
          clear hK HAr hlk d1 hc
          have HK2 := Lib.hid hK2
          clear hK2
          generalize wr.drewN nq = W30 at *
          go_wp2_with fail
          go_loopw [3, 40] (fun v i wr => ∃ (L' : List Int) (m : Nat) (f' : Int → Int), m ≤ ln ∧ i = .int .i64 m ∧ Hid (k < L'.length ∧ nth L' k = Y) ∧ Hid (ReI zs fr w B0 gc gr S j sc (N + 256 * k + m) L' k ((refL zs (nth L' k)).take m) f' v wr) ∧ Hid (Arr .i64 wr w.heap.size A' ln (refL zs Y))) (fun _ i _ => ln - (intOf i).toNat)
          case atStart => exact ⟨L, 0, f', Nat.zero_le _, rfl, ⟨HLT.out, HY.out⟩, by rw [List.take_zero]; exact HK2.out, HAr2.out⟩
          case round =>
            obtain ⟨L', m, f2, hm, rfl, HL', hM, hAi⟩ := hrel
            clear HK2 HAr2
            obtain ⟨A4, c4, rfl, _, _⟩ := hM.out.own.arr
            by_cases hlt2 : m < ln
            · obtain ⟨b2, off2, rfl, _, hcs⟩ := hAi.out.2.2 (by omega)
              have hc := hcs m hlt2
              have hln := HLL.out
              have hln2 := HLN.out
              have hmem : nth (refL zs Y) m ∈ refL zs Y := nth_mem (by omega)
              have hin := HIN.out _ hmem
              have hwf2 := HLW.out _ hin
              have d0 : wr.cell? ⟨w.heap.size, 0, none⟩ = some (.map (some gc)) := hM.out.box.cell 0
              obtain ⟨hl1, hFw⟩ := hM.out.look hin hwf2
              obtain ⟨hp1, _⟩ := hM.out.rl.has HL'.out.1 (by rw [HL'.out.2]; omega) (by rw [HL'.out.2]; exact hin)
              obtain ⟨hd1, hd2⟩ := hM.out.rl.down HL'.out.1 (by rw [HL'.out.2]; omega) (by rw [HL'.out.2]; exact hin)
              rw [HL'.out.2] at hp1 hd1 hd2
              have HMR := Lib.hid fun w' hm hg => hM.out.count (y := f2 (nth (refL zs Y) m) - 1) (wr' := w') hin hg hm
              have HMA : Hid (∀ w', wr.grownBy w' (some gc) → Arr .i64 w' w.heap.size (some ⟨b2, off2, none⟩) ln (refL zs Y)) := fun w' hg => hAi.out.keepMap hM.out.tl.cn.nocell hg
              have HCN := Lib.hid hM.out.tl.cn
              have HOO : Hid (B0 ≤ gc ∧ B0 ≤ w.heap.size) := ⟨hM.out.o1, hM.out.o2⟩
              have hL'q := hM.out.rl.len
              rw [wf_i64] at hFw
              clear hcs hM hAi hmem
              obtain ⟨X, hX⟩ : ∃ X, nth (refL zs Y) m = X := ⟨_, rfl⟩
              rw [hX] at hl1 hp1 hd1 hd2 HMR hFw hc hin hwf2
              clear hX
              obtain ⟨F, hFX⟩ : ∃ F, f2 X = F := ⟨_, rfl⟩
              rw [hFX] at hl1 hp1 hd1 hd2 HMR hFw
              have e1 : IntKind.i64.wrap (F - 1) = F - 1 := IntWalk.i64_in _ (by omega)
              have hw2 : (Lit.int .i64 (F - 1)).wf = true := wf_i64.2 (by omega)
              have HIN2 := Lib.hid hin
              obtain ⟨M4, hM4⟩ : ∃ M, L'.length = M := ⟨_, rfl⟩
              have HM4 := Lib.hid hM4
              rw [hM4] at HMR hL'q ⊢
              clear hM4
              by_cases hF1 : F = 1
              · have HD := Lib.hid (hd2 hF1)
                have c0 : (F - 1 == 0) = true := by simp; omega
                clear hd1 hd2 hFX hin hF1
                go_wp2_with (at_mapUpdate; refine wpList_store_map countT _ rfl _ _ _ rfl rfl rfl rfl HCN.out (by unfold maxLen; omega) hwf2 hw2 ?_)
                intro w' hm hg
                obtain ⟨a1, a2, a3, a4⟩ := HMR.out w' hm hg
                have hlk2 := a2.cn.look countT hwf2
                rw [cnIn_in HIN2.out, if_pos rfl] at hlk2
                have d0' : w'.cell? ⟨w.heap.size, 0, none⟩ = some (.map (some gc)) := a1.cell 0
                have HAi := Lib.hid (HMA.out w' hg)
                obtain ⟨v', w5, hrun, hO', hB'⟩ := a3.push (P := Try.prog) (t := 23) (ty := 23) Try.underlying23 intI_info (by omega) (x := X) hwf2 (by have := HM4.out; omega) (by have := a1.lt; omega)
                have HN : Hid (ReI zs fr w B0 gc gr S j sc (N + 256 * k + (m + 1)) (L' ++ [X]) k ((refL zs (nth (L' ++ [X]) k)).take (m + 1)) (fun z => if z = X then F - 1 else f2 z) v' w5) :=
                  ⟨a1.below hB' (by omega), a2.below hB' (by omega), hO', a4.trans (hB'.mono (by have := HOO.out; omega)), HOO.out.1, HOO.out.2, HD.out⟩
                have HAi2 := Lib.hid (HAi.out.below hB' (by omega))
                have HNL : Hid (k < (L' ++ [X]).length ∧ nth (L' ++ [X]) k = Y) := by
                  have h1 := HL'.out
                  refine ⟨by rw [List.length_append]; omega, ?_⟩
                  rw [nth_get _ _ (by rw [List.length_append]; omega), List.getElem_append_left h1.1, ← nth_get _ _ h1.1]
                  exact h1.2
                have HRN := Lib.hid hrun
                clear a1 a2 a3 a4 hm hg hrun hO' hB' HD HMR HMA HCN HL' HAi HIN2
                go_wp2_with (at_builtin; refine wpList_append_run rfl (.tmp 54) (.tmp 56) 23 rfl rfl rfl HRN.out ?_)
                go_roundw
                case rel => exact ⟨_, m + 1, _, by omega, by go_num, HNL, HN.out, HAi2.out⟩
                case measure => simp [intOf]; omega
              · have HD := Lib.hid (hd1 hF1)
                have c0 : (F - 1 == 0) = false := by simp; omega
                clear hd1 hd2 hFX hin hF1
                go_wp2_with (at_mapUpdate; refine wpList_store_map countT _ rfl _ _ _ rfl rfl rfl rfl HCN.out (by unfold maxLen; omega) hwf2 hw2 ?_)
                intro w' hm hg
                obtain ⟨a1, a2, a3, a4⟩ := HMR.out w' hm hg
                have hlk2 := a2.cn.look countT hwf2
                rw [cnIn_in HIN2.out, if_pos rfl] at hlk2
                have d0' : w'.cell? ⟨w.heap.size, 0, none⟩ = some (.map (some gc)) := a1.cell 0
                have HAi := Lib.hid (HMA.out w' hg)
                have HN : Hid (ReI zs fr w B0 gc gr S j sc (N + 256 * k + (m + 1)) L' k ((refL zs (nth L' k)).take (m + 1)) (fun z => if z = X then F - 1 else f2 z) (.slice A4 M4 c4) w') :=
                  ⟨a1, a2, a3, a4, HOO.out.1, HOO.out.2, by rw [HL'.out.2]; exact HD.out⟩
                clear a1 a2 a3 a4 hm hg HD HMR HMA HCN HIN2
                go_wp2
                go_roundw
                case rel => exact ⟨L', m + 1, _, by omega, by go_num, HL', HN.out, HAi.out⟩
                case measure => simp [intOf]; omega
            · obtain rfl : m = ln := by omega
              have hM2 := hM.out
              have htl : (refL zs (nth L' k)).take m = refL zs (nth L' k) := List.take_of_length_le (by rw [HL'.out.2]; have := HLL.out; omega)
              have hr := hM2.rl
              rw [htl] at hr
              have HN := Lib.hid (hM2.mono (N' := N + 256 * (k + 1)) (by have := HLN.out; omega) (hr.next HL'.out.1))
              obtain ⟨M4, hM4⟩ : ∃ M, L'.length = M := ⟨_, rfl⟩
              rw [hM4] at HN ⊢
              clear hM hM2 hAi htl hr hM4
              go_wp2
              go_roundw
              case rel => exact ⟨L', k + 1, _, by go_num, HN.out⟩
              case measure => simp [intOf]; omega
        · have hke : k = L.length := by omega
          have hr := hK.out.rl
          rw [hke] at hr
          have hsort := gone_sort hr.nd hr.all
          have hS := sortI_own (.slice A L.length c) L (w.heap.size + 1) wr hK.out.own (by omega) (by have := hK.out.box.lt; omega)
          rw [hsort] at hS
          have HS := Lib.hid hS
          have HB := Lib.hid hK.out.below
          have HO2 : Hid (B0 ≤ w.heap.size) := hK.out.o2
          clear hK hr hsort hS hAr
          obtain ⟨M, hM⟩ : ∃ M, L.length = M := ⟨_, rfl⟩
          rw [hM] at HS hlt hLq hkL hAc hke ⊢
          clear hM
          subst hke
          go_wp2_with fail
          refine HS.out.mono ?_
          rintro e w5 ⟨rfl, ho, hb⟩
          obtain ⟨A5, c5, e5, hc5, hA5⟩ := ho.arr
          injection e5 with e6 e7 e8
          subst e6 e8
          have HA5 := Lib.hid hA5
          have HB5 := Lib.hid (HB.out.trans (hb.mono (by have := HO2.out; omega)))
          have HC5 := Lib.hid hc5
          have HE7 := Lib.hid e7
          clear ho hb hA5 hc5 e7 HS
          go_wp2
          go_ret
          exact ⟨A, c, by rw [← HE7.out]; rfl, HB5.out, HC5.out, HA5.out⟩
end Go.Proofs.Ytgekghlmkfkbjaa
