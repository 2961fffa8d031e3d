/-
  Parts of the proof of CarrySlides: Later.
-/
import Derived.OrdersHeld
import Derived.RegionTactic
import Derived.Deep.Quiet
import Derived.Test.YtjefbekdjgmmbaaCarrySlidesAa
namespace Go.Proofs.Ytjefbekdjgmmbaa
open Go.RowKit
section
variable {P : Program} {md : Region.Mode} {ops : Array Oper} {Q : Exit → Act → World → Prop} {S : World → Prop} {z : Nat}
/-- Whatever order is picked: 'S' holds behind every operation till number 'z' is done. -/
def anyY (P : Program) (md : Region.Mode) (ops : Array Oper) (Q : Exit → Act → World → Prop) (S : World → Prop) (z : Nat) : Nat → Array Bool → Act → World → Prop
  | 0, listed, a, w => Region.ready md ops listed = [] ∧ Q .normal a w
  | fuel + 1, listed, a, w =>
    (Region.ready md ops listed = [] → Q .normal a w) ∧
    ∀ i ∈ Region.ready md ops listed, wpOp P ops Q i (fun a' w' => (listed.getD z true = true ∨ i = z ∨ S w') ∧ anyY P md ops Q S z fuel (listed.setIfInBounds i true) a' w') a w
theorem anyY_any : ∀ (fuel : Nat) {listed : Array Bool} {a : Act} {w : World}, anyY P md ops Q S z fuel listed a w → wpAny P md ops Q fuel listed a w
  | 0, _, _, _, h => h
  | fuel + 1, _, _, _, h => ⟨h.1, fun i hi => wpOp_mono (fun _ _ h' => anyY_any fuel h'.2) (h.2 i hi)⟩
/-- Number 'i' waits for nothing; it needs no condition, or 'z' waits for it: it may be taken first. -/
theorem anyY_first {T : World → Prop} {i : Nat} {oi oz : Oper} {v : Value} (hi : ops[i]? = some oi) (hoz : ops[z]? = some oz) (hiz : i ≠ z) (hT : (∀ w, T w) ∨ ((∀ w, S w → T w) ∧ ∃ e ∈ oz.after, Region.binds md e = true ∧ e.on = i))
    (hsel : ∀ (j : Nat) (o : Oper) cs b, ops[j]? = some o → o.op ≠ .select cs b) (hQ : ∀ c a w, Q (.panic c) (a.put oi.dst v) w → Q (.panic c) a w) :
    ∀ (fuel : Nat) (listed : Array Bool) (a : Act) (w : World),
      (∀ j oj, ops[j]? = some oj → j ≠ i → listed.getD j true = false → (∀ e ∈ oj.after, Region.binds md e = true → e.on ≠ i) → oi.apart ops oj = true) →
      i ∈ Region.ready md ops listed → YieldsIf P ops T oi v a → T w → (listed.getD z true = true ∨ S w) → ((∀ w, T w) ∨ listed.getD z true = false) →
      anyY P md ops Q S z fuel (listed.setIfInBounds i true) (a.put oi.dst v) w → anyY P md ops Q S z (fuel + 1) listed a w := by
  have main : ∀ fuel, (∀ (listed : Array Bool) (a : Act) (w : World), i ∈ Region.ready md ops listed → YieldsIf P ops T oi v a → T w → (listed.getD z true = true ∨ S w) →
      anyY P md ops Q S z fuel (listed.setIfInBounds i true) (a.put oi.dst v) w → wpOp P ops Q i (fun a' w' => (listed.getD z true = true ∨ i = z ∨ S w') ∧ anyY P md ops Q S z fuel (listed.setIfInBounds i true) a' w') a w) :=
    fun fuel listed a w _ hy hTw hS H => hy.wpOp hi hTw ⟨hS.imp id .inr, H⟩
  intro fuel
  induction fuel with
  | zero =>
    intro listed a w _ hr hy hTw hS _ H
    refine ⟨fun h => absurd (h ▸ hr) (by simp), fun j hj => ?_⟩
    rcases Classical.em (j = i) with rfl | hji
    · exact main 0 listed a w hr hy hTw hS H
    · exact absurd (H.1 ▸ ready_mono hj hji) (by simp)
  | succ fuel ih =>
    intro listed a w hfree hr hy hTw hS hzl H
    refine ⟨fun h => absurd (h ▸ hr) (by simp), fun j hj => ?_⟩
    rcases Classical.em (j = i) with rfl | hji
    · exact main (fuel + 1) listed a w hr hy hTw hS H
    · obtain ⟨hun, oj, hoj, hall⟩ := mem_ready.1 hj
      have hwait : ∀ e ∈ oj.after, Region.binds md e = true → e.on ≠ i := by
        intro e he hb heq
        have h1 := hall e he hb
        have h0 := (mem_ready.1 hr).1
        rw [heq] at h1
        rcases Nat.lt_or_ge i listed.size with h' | h'
        · simp [h'] at h0 h1
          rw [h0] at h1; cases h1
        · simp [Array.getElem?_eq_none h'] at h1
      have step := wpOp_putIf hoj (hfree j oj hoj hji hun hwait) (fun cs b => hsel i oi cs b hi) (fun cs b => hsel j oj cs b hoj) hQ hy (H.2 j (ready_mono hj hji))
      refine wpOp_mono (fun a' w' ⟨hy', hor, h3⟩ => ?_) step
      rw [getD_set_ne true hiz] at hor
      have hself : j = z → (listed.setIfInBounds j true).getD z true = true := fun e => by
        subst e
        rcases Nat.lt_or_ge j listed.size with h' | h'
        · simp [Array.getD, h']
        · simp [Array.getD, Nat.not_lt.2 h']
      have hS' : (listed.setIfInBounds j true).getD z true = true ∨ S w' := by
        rcases hor with h1 | h1 | h1
        · rcases Classical.em (j = z) with e | e
          · exact .inl (hself e)
          · rw [getD_set_ne true e]; exact .inl h1
        · exact .inl (hself h1)
        · exact .inr h1
      have hzl' : (∀ w, T w) ∨ ((listed.setIfInBounds j true).getD z true = false ∧ T w') := by
        rcases hT with hT | ⟨hT, hz⟩
        · exact .inl hT
        · rcases hzl with h1 | h1
          · exact .inl h1
          · have hjz : j ≠ z := by
              rintro rfl
              rw [hoz] at hoj
              obtain rfl := Option.some.inj hoj
              obtain ⟨e, he, hb, heq⟩ := hz
              exact hwait e he hb heq
            have h2 : (listed.setIfInBounds j true).getD z true = false := by rw [getD_set_ne true hjz]; exact h1
            refine .inr ⟨h2, hT _ ?_⟩
            rcases hS' with h3 | h3
            · rw [h2] at h3; cases h3
            · exact h3
      refine ⟨?_, ih _ a' w' (fun k ok hk hki hun' hno => hfree k ok hk hki ?_ hno) (ready_mono hr (Ne.symm hji)) hy' ?_ hS' (hzl'.imp id (·.1)) ?_⟩
      · exact hor
      · rcases Classical.em (j = k) with rfl | hjk
        · exact hun
        · rw [getD_set_ne true hjk] at hun'; exact hun'
      · rcases hzl' with h1 | h1
        · exact h1 w'
        · exact h1.2
      · rw [Array.setIfInBounds_comm _ _ hji]; exact h3
/-- .. one that 'z' waits for, under the condition. -/
theorem anyY_take {i : Nat} {oi oz : Oper} {v : Value} {fuel : Nat} {listed : Array Bool} {a : Act} {w : World} (hi : ops[i]? = some oi) (hoz : ops[z]? = some oz) (hz : (oz.after.toList.any fun e => Region.binds md e && e.on == i) = true) (hiz : (i == z) = false) (hzl : listed.getD z true = false)
    (hs : Region.noSelect ops = true) (hf : Region.free md ops listed i = true) (hr : (Region.ready md ops listed).contains i = true)
    (hQ : ∀ c a w, Q (.panic c) (a.put oi.dst v) w → Q (.panic c) a w) (hy : YieldsIf P ops S oi v a) (hS : S w)
    (h : anyY P md ops Q S z fuel (listed.setIfInBounds i true) (a.put oi.dst v) w) : anyY P md ops Q S z (fuel + 1) listed a w :=
  anyY_first (T := S) hi hoz (by simpa using hiz) (.inr ⟨fun _ h => h, by
    obtain ⟨e, he, h1⟩ := List.any_eq_true.1 hz
    simp only [Bool.and_eq_true, beq_iff_eq] at h1
    exact ⟨e, by simpa using he, h1.1, h1.2⟩⟩) (Region.noSelect_spec hs) hQ fuel listed a w (Region.free_spec hi hf) (by simpa using hr) hy hS (.inr hS) (.inr hzl) h
/-- .. one that needs no condition. -/
theorem anyY_pure {i : Nat} {oi oz : Oper} {v : Value} {fuel : Nat} {listed : Array Bool} {a : Act} {w : World} (hi : ops[i]? = some oi) (hoz : ops[z]? = some oz) (hiz : (i == z) = false)
    (hs : Region.noSelect ops = true) (hf : Region.free md ops listed i = true) (hr : (Region.ready md ops listed).contains i = true)
    (hQ : ∀ c a w, Q (.panic c) (a.put oi.dst v) w → Q (.panic c) a w) (hy : YieldsIf P ops (fun _ => True) oi v a) (hS : listed.getD z true = true ∨ S w)
    (h : anyY P md ops Q S z fuel (listed.setIfInBounds i true) (a.put oi.dst v) w) : anyY P md ops Q S z (fuel + 1) listed a w :=
  anyY_first (T := fun _ => True) hi hoz (by simpa using hiz) (.inl fun _ => trivial) (Region.noSelect_spec hs) hQ fuel listed a w (Region.free_spec hi hf) (by simpa using hr) hy trivial hS (.inl fun _ => trivial) h
/-- One alone may come up. -/
theorem anyY_only {i : Nat} {fuel : Nat} {listed : Array Bool} {a : Act} {w : World} (hr : Region.ready md ops listed = [i])
    (h : wpOp P ops Q i (fun a' w' => (listed.getD z true = true ∨ i = z ∨ S w') ∧ anyY P md ops Q S z fuel (listed.setIfInBounds i true) a' w') a w) : anyY P md ops Q S z (fuel + 1) listed a w := by
  refine ⟨fun h0 => absurd (hr.symm.trans h0) (by simp), fun j hj => ?_⟩
  rw [hr] at hj
  obtain rfl := List.mem_singleton.1 hj
  exact h
theorem wp_region_Y {id : Nat} {a : Act} {w : World} (z : Nat) (S : World → Prop) (hm : P.follows .mixedOrders = true) (h : anyY P .any ops Q S z ops.size (Array.replicate ops.size false) a { w with drawn := w.drawn + 1 }) : (Code.region id ops true).wp P Q a w :=
  wp_region_any hm (anyY_any _ h)
theorem anyY_done {listed : Array Bool} {a : Act} {w : World} (hr : Region.ready md ops listed = []) (h : Q .normal a w) : ∀ fuel, anyY P md ops Q S z fuel listed a w
  | 0 => ⟨hr, h⟩
  | _ + 1 => ⟨fun _ => h, by rw [hr]; simp⟩
end
/-- A world that came later: what was there is as it was. -/
structure Later (W : World) where
  w : World
  below : Below W.heap.size W w
instance (W : World) : Inhabited (Later W) := ⟨⟨W, Below.refl _ _⟩⟩
theorem Later.cell {W : World} {a : Addr} {v : Value} (hb : a.block < W.heap.size) (h : W.cell? a = some v) (p : Later W) : p.w.cell? a = some v := (p.below.cell hb).trans h
/-- A callee's contract, met in a later world. -/
theorem Later.call {P : Program} {f : FuncId} {args : Array Value} {W : World} {p : Later W} {v : Value} (h : Calls P f args p.w fun e w' => e = .returned v ∧ Below p.w.heap.size p.w w') :
    Calls P f args p.w fun e w'' => e = .returned v ∧ ∃ p : Later W, w'' = p.w :=
  h.mono fun _ w' ⟨he, hb⟩ => ⟨he, ⟨w', p.below.trans (hb.mono p.below.size)⟩, rfl⟩
end Go.Proofs.Ytjefbekdjgmmbaa
